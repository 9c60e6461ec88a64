/-
  The walk of CodecTakes.
-/
import Derived.Test.YtkphfacodacpkaaK
import Derived.Test.YtkphfacodacpkaaC
namespace Go.Proofs.Ytkphfacodacpkaa
open Go.ChangeShapes Go.WideShapes Go.ChangeAt Go.RowKit

theorem take_t {w : World} {v : Value} {ns : List Nat} (hr : Rd w v (bv ns)) (hb : By ns) (hl : ns.length ≤ 140737488355328) {t1 t2 t3 : Nat} (ht : takeL ns = (t1, t2, t3)) :
    Calls Try.prog 11 #[v] w fun e w' => e = .returned (.tuple #[.int .u64 (t1 : Int), .int .i64 (t2 : Int), .int .i64 (t3 : Int)]) ∧ w' = w := by
  have := take_c hr hb hl
  rw [ht] at this
  exact this
theorem reftake_t {w : World} {v : Value} {ns : List Nat} (hr : Rd w v (bv ns)) (hb : By ns) (hl : ns.length ≤ 140737488355328) (t : Nat) (h : t ≤ 140737488355328) {t1 t2 t3 : Nat} (ht : takeL (ns.drop t) = (t1, t2, t3)) :
    Calls Try.prog 19 #[v, .int .i64 (t : Int)] w fun e w' => e = .returned (.tuple #[.int .u64 (t1 : Int), .int .i64 (t2 : Int), .int .i64 (t3 : Int)]) ∧ w' = w := by
  have := reftake_c hr hb hl t h
  rw [ht] at this
  exact this

set_option maxRecDepth 20000 in
set_option maxHeartbeats 1600000 in
theorem takes_c (w : World) {v : Value} {ns : List Nat} (hr : Rd w v (bv ns)) (hb : By ns) (hl : ns.length ≤ 140737488355328) :
    Calls Try.prog 4 #[v] w fun e w' => e = .returned (.bool true) ∧ Fr [] w w' := by
  obtain ⟨a, c, hv⟩ := hr.form
  rw [bv_len] at hv
  subst hv
  have HR := hid hr
  have HB := hid hb
  obtain ⟨t1, t2, t3, ht⟩ : ∃ t1 t2 t3, takeL ns = (t1, t2, t3) := ⟨_, _, _, rfl⟩
  have HT := hid ht
  clear hr hb ht
  rcases (show ns.length < 4 ∨ (4 ≤ ns.length ∧ ns.length < 8) ∨ 8 ≤ ns.length from by omega) with h4 | ⟨h4, h8⟩ | h8
  · go_enter Try.func4, Try.ntmps4
    go_wp2_with fail
    refine (known_c w).mono ?_
    rintro e w1 ⟨rfl, f1⟩
    have R1 := hid (HR.out.fr f1)
    have F1 := hid f1
    clear f1
    go_wp2_with fail
    refine (take_t R1.out HB.out hl HT.out).mono ?_
    rintro e w2 ⟨rfl, rfl⟩
    go_wp2_with fail
    refine (reftake_t R1.out HB.out hl 0 (by omega) HT.out).mono ?_
    rintro e w3 ⟨rfl, rfl⟩
    go_wp2_with fail
    refine (unfixed8_short R1.out (by omega)).mono ?_
    rintro e w4 ⟨rfl, rfl⟩
    go_wp2_with fail
    refine (unfixed4_short R1.out (by omega)).mono ?_
    rintro e w5 ⟨rfl, rfl⟩
    go_wp2
    go_ret
    exact ⟨rfl, F1.out⟩
  · obtain ⟨q, hq⟩ : ∃ q, q = unf (ns.take 4) := ⟨_, rfl⟩
    have hq1 : q < 4294967296 := by
      have := unf_lt _ (HB.out.take 4)
      rw [List.length_take, Nat.min_eq_left h4] at this
      omega
    have HQ := hid hq
    clear hq
    go_enter Try.func4, Try.ntmps4
    go_wp2_with fail
    refine (known_c w).mono ?_
    rintro e w1 ⟨rfl, f1⟩
    have R1 := hid (HR.out.fr f1)
    have F1 := hid f1
    clear f1
    go_wp2_with fail
    refine (take_t R1.out HB.out hl HT.out).mono ?_
    rintro e w2 ⟨rfl, rfl⟩
    go_wp2_with fail
    refine (reftake_t R1.out HB.out hl 0 (by omega) HT.out).mono ?_
    rintro e w3 ⟨rfl, rfl⟩
    go_wp2_with fail
    refine (unfixed8_short R1.out (by omega)).mono ?_
    rintro e w4 ⟨rfl, rfl⟩
    go_wp2_with fail
    refine (unfixed4_c R1.out HB.out (by omega) hl).mono ?_
    rintro e w5 ⟨rfl, rfl⟩
    rw [← HQ.out]
    go_wp2_with fail
    refine (refunfixed_c R1.out HB.out 0 4 (by omega) (by omega) hl).mono ?_
    rintro e w6 ⟨rfl, rfl⟩
    rw [List.drop_zero, ← HQ.out]
    go_wp2
    go_ret
    exact ⟨rfl, F1.out⟩
  · obtain ⟨q, hq⟩ : ∃ q, q = unf (ns.take 4) := ⟨_, rfl⟩
    have hq1 : q < 4294967296 := by
      have := unf_lt _ (HB.out.take 4)
      rw [List.length_take, Nat.min_eq_left (by omega)] at this
      omega
    obtain ⟨r, hr⟩ : ∃ r, r = unf (ns.take 8) := ⟨_, rfl⟩
    have HQ := hid hq
    have HR8 := hid hr
    clear hq hr
    go_enter Try.func4, Try.ntmps4
    go_wp2_with fail
    refine (known_c w).mono ?_
    rintro e w1 ⟨rfl, f1⟩
    have R1 := hid (HR.out.fr f1)
    have F1 := hid f1
    clear f1
    go_wp2_with fail
    refine (take_t R1.out HB.out hl HT.out).mono ?_
    rintro e w2 ⟨rfl, rfl⟩
    go_wp2_with fail
    refine (reftake_t R1.out HB.out hl 0 (by omega) HT.out).mono ?_
    rintro e w3 ⟨rfl, rfl⟩
    go_wp2_with fail
    refine (unfixed8_c R1.out HB.out h8 hl).mono ?_
    rintro e w4 ⟨rfl, rfl⟩
    rw [← HR8.out]
    go_wp2_with fail
    refine (unfixed4_c R1.out HB.out (by omega) hl).mono ?_
    rintro e w5 ⟨rfl, rfl⟩
    rw [← HQ.out]
    go_wp2_with fail
    refine (refunfixed_c R1.out HB.out 0 8 (by omega) (by omega) hl).mono ?_
    rintro e w6 ⟨rfl, rfl⟩
    rw [List.drop_zero, ← HR8.out]
    go_wp2_with fail
    refine (refunfixed_c R1.out HB.out 0 4 (by omega) (by omega) hl).mono ?_
    rintro e w7 ⟨rfl, rfl⟩
    rw [List.drop_zero, ← HQ.out]
    go_wp2
    go_ret
    exact ⟨rfl, F1.out⟩
end Go.Proofs.Ytkphfacodacpkaa
