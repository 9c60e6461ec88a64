/-
  The walk of WalAppends.
-/
import Derived.Test.YtplghoibadmdjaaDoorWk
namespace Go.Proofs.YtplghoibadmdjaaDoor
open Go.ChangeShapes Go.WideShapes Go.ChangeAt Go.RowKit

theorem refappend_c (w : World) (z : Int) {v : Value} {r : List Nat} (hr : Rd w v (bv r)) (hb : By r) (hl : r.length ≤ 4194304) :
    Calls Tryd.prog 11 #[.int .i64 z, v] w fun e w' => ∃ v', e = .returned (.tuple #[v', .int .i64 0]) ∧ w'.ownsRow w.heap.size 5 1 v' (appL z.toNat r).length (bv (appL z.toNat r)) ∧ Fr [] w w' := by
  have h := refappend_p w z (z.toNat % 64) (by omega) (by omega) hr hb hl
  rw [appL_mod] at h
  exact h

set_option maxRecDepth 20000 in
set_option maxHeartbeats 800000 in
theorem reflength_c (w : World) (z : Int) (n : Nat) (hn : n ≤ 4194304) :
    Calls Tryd.prog 14 #[.int .i64 z, .int .i64 (n : Int)] w fun e w' => e = .returned (.int .i64 ((zr z.toNat + (nfr (lf z.toNat) n * 7 + n) : Nat) : Int)) ∧ Fr [] w w' := by
  have MR := make_run w (n := n) (c := n) (Nat.le_refl _) (by omega)
  have MO := make_own w (n := n) (c := n) (Nat.le_refl _) (by omega)
  have RM := hid (Rd.ownN MO (by simp))
  have MF := hid ((Fr.refl [] w).alloc (.cells (madeCells #[.int .u8 0] n) 5))
  have hby : By (List.replicate n 0) := fun x hx => by rw [List.mem_replicate] at hx; omega
  have hal := appL_len z.toNat (List.replicate n 0)
  rw [List.length_replicate] at hal
  have RC := hid (refappend_c (w.alloc (.cells (madeCells #[.int .u8 0] n) 5)) z RM.out hby (by simpa using hn))
  rw [← hal]
  clear MO hal hby
  have hq : ¬ (n : Int) < 0 := by omega
  have hq2 : ¬ (4194304 : Int) < (n : Int) := by omega
  generalize appL z.toNat (List.replicate n 0) = A at *
  go_enter Tryd.func14, Tryd.ntmps14
  go_wp2_with (go_at_call 11; refine RC.out.mono ?_; rintro e w1 ⟨v1, rfl, o1, f1⟩; obtain ⟨a1, c1, rfl, _⟩ := ownsRow_slice o1)
  go_ret
  exact ⟨rfl, MF.out.trans f1⟩
set_option maxRecDepth 20000 in
theorem reflength_no (w : World) (z n : Int) (hn : n < 0 ∨ 4194304 < n) :
    Calls Tryd.prog 14 #[.int .i64 z, .int .i64 n] w fun e w' => e = .returned (.int .i64 0) ∧ w' = w := by
  rcases hn with hn | hn
  · go_enter Tryd.func14, Tryd.ntmps14
    go_wp2
    go_ret
    exact ⟨rfl, rfl⟩
  · have hn' : ¬ n < 0 := by omega
    go_enter Tryd.func14, Tryd.ntmps14
    go_wp2
    go_ret
    exact ⟨rfl, rfl⟩
/-- Both lengths of whatever number. -/
theorem lengths_both (z n : Int) (hz : z ≤ 9223372036854775807) : ∃ q : Int, (∀ w, Calls Tryd.prog 13 #[.int .i64 z, .int .i64 n] w fun e w' => e = .returned (.int .i64 q) ∧ w' = w) ∧ (∀ w, Calls Tryd.prog 14 #[.int .i64 z, .int .i64 n] w fun e w' => e = .returned (.int .i64 q) ∧ Fr [] w w') := by
  by_cases h : 0 ≤ n ∧ n ≤ 4194304
  · obtain ⟨m, rfl⟩ : ∃ m : Nat, n = (m : Int) := ⟨n.toNat, by omega⟩
    exact ⟨_, fun w => length_c w z hz m (by omega), fun w => reflength_c w z m (by omega)⟩
  · exact ⟨0, fun w => length_no w z n (by omega), fun w => (reflength_no w z n (by omega)).mono fun e w' h => ⟨h.1, by rw [h.2]; exact Fr.refl _ _⟩⟩

set_option maxRecDepth 20000 in
set_option maxHeartbeats 1600000 in
theorem appends_c (w : World) (z : Int) (hz : z ≤ 9223372036854775807) {v : Value} {r : List Nat} (hr : Rd w v (bv r)) (hb : By r) (hl : r.length ≤ 140737488355328) (n : Int) :
    Calls Tryd.prog 3 #[.int .i64 z, v, .int .i64 n] w fun e w' => e = .returned (.bool true) ∧ Fr [] w w' := by
  obtain ⟨a, c, hv⟩ := hr.form
  rw [bv_len] at hv
  subst hv
  have HR := hid hr
  have HB := hid hb
  clear hr hb
  by_cases h3 : 3000 < r.length
  · go_enter Tryd.func3, Tryd.ntmps3
    go_wp2_with fail
    refine (known_c w).mono ?_
    rintro e w1 ⟨rfl, f1⟩
    go_wp2
    go_ret
    exact ⟨rfl, f1⟩
  · have hal := appL_len z.toNat r
    have hby : By (appL z.toNat r) := appL_by HB.out
    have LC := hid (fun w => length_c w z hz r.length (by omega))
    rw [← hal] at LC
    obtain ⟨q, LN, RN⟩ := lengths_both z n hz
    have HLN := hid LN
    have HRN := hid RN
    have AC := hid (fun w h => append_c w z hz (v := .slice a r.length c) (r := r) h HB.out (by omega))
    have RC := hid (fun w h => refappend_c w z (v := .slice a r.length c) (r := r) h HB.out (by omega))
    have HBY := hid hby
    clear hal hby LN RN
    generalize appL z.toNat r = A at *
    have haa : ((A.length : Int) == (A.length : Int)) = true := by simp
    have hqq : (q == q) = true := by simp
    go_enter Tryd.func3, Tryd.ntmps3
    go_wp2_with fail
    refine (known_c w).mono ?_
    rintro e w1 ⟨rfl, f1⟩
    have R1 := hid (HR.out.fr f1)
    have F1 := hid f1
    clear f1
    go_wp2_with fail
    refine (AC.out w1 R1.out).mono ?_
    rintro e w2 ⟨v2, rfl, o2, f2⟩
    obtain ⟨a2, c2, hv2, _⟩ := ownsRow_slice o2
    subst hv2
    have P2 := hid (Rd.ownB o2)
    have R2 := hid (R1.out.fr f2)
    have F2 := hid (F1.out.trans f2)
    clear o2 f2
    go_wp2_with fail
    refine (RC.out w2 R2.out).mono ?_
    rintro e w3 ⟨v3, rfl, o3, f3⟩
    obtain ⟨a3, c3, hv3, _⟩ := ownsRow_slice o3
    subst hv3
    have P3 := hid (Rd.ownB o3)
    have Q3 := hid (P2.out.fr f3)
    have F3 := hid (F2.out.trans f3)
    clear o3 f3
    go_wp2_with fail
    refine (bytes_c Q3.out P3.out HBY.out HBY.out).mono ?_
    rintro e w4 ⟨rfl, rfl⟩
    rw [decide_eq_true rfl]
    by_cases hn : 5000 < n ∧ n ≤ 4194304
    · obtain ⟨hn1, hn2⟩ := hn
      go_wp2_with fail
      refine (LC.out w4).mono ?_
      rintro e w5 ⟨rfl, rfl⟩
      go_wp2
      go_ret
      exact ⟨by simp, F3.out⟩
    · rcases (show ¬ (5000 < n) ∨ (5000 < n ∧ ¬ (n ≤ 4194304)) from by omega) with q1 | ⟨q1, q2⟩
      all_goals
        go_wp2_with fail
        refine (LC.out w4).mono ?_
        rintro e w5 ⟨rfl, rfl⟩
        go_wp2_with fail
        refine (HLN.out w5).mono ?_
        rintro e w6 ⟨rfl, rfl⟩
        go_wp2_with fail
        refine (HRN.out w6).mono ?_
        rintro e w7 ⟨rfl, f7⟩
        have F7 := hid (F3.out.trans f7)
        clear f7
        go_wp2
        go_ret
        exact ⟨by simp, F7.out⟩
end Go.Proofs.YtplghoibadmdjaaDoor
