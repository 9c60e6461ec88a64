/-
  The walk of WalRoom.
-/
import Derived.Test.YtplghoibadmdjaaDoorWi
namespace Go.Proofs.YtplghoibadmdjaaDoor
open Go.ChangeShapes Go.WideShapes Go.ChangeAt Go.RowKit

theorem room_le (t n : Nat) : zr t + (nfr (lf t) n * 7 + n) ≤ n + 7 * ((t % 64 + (zr t + (nfr (lf t) n * 7 + n)) + 64 - 1) / 64 + 1) + 6 := by
  unfold zr lf
  by_cases h : 64 - t % 64 < 7
  · rw [if_pos h, if_pos h]; unfold nfr; omega
  · rw [if_neg h, if_neg h]; unfold nfr; omega
theorem room_ge (t n : Nat) : n + 7 ≤ zr t + (nfr (lf t) n * 7 + n) := by unfold nfr; omega

set_option maxRecDepth 20000 in
set_option maxHeartbeats 800000 in
theorem wroom_c (w : World) (z n : Int) (h1 : -9223372036854775808 ≤ z) (h2 : z ≤ 9223372036854775807) (h3 : -9223372036854775808 ≤ n) (h4 : n ≤ 9223372036854775807) :
    Calls Tryd.prog 8 #[.int .i64 z, .int .i64 n] w fun e w' => e = .returned (.bool true) ∧ Fr [] w w' := by
  by_cases hs : 0 ≤ z ∧ z ≤ 1048576 ∧ 0 ≤ n ∧ n ≤ 20000
  · obtain ⟨s1, s2, s3, s4⟩ := hs
    obtain ⟨t, rfl⟩ : ∃ t : Nat, z = (t : Int) := ⟨z.toNat, by omega⟩
    obtain ⟨m, rfl⟩ : ∃ m : Nat, n = (m : Int) := ⟨n.toNat, by omega⟩
    have LC := fun w => length_c w (t : Int) (by omega) m (by omega)
    rw [Int.toNat_natCast] at LC
    have hle := room_le t m
    have hge := room_ge t m
    have hKb : zr t + (nfr (lf t) m * 7 + m) ≤ 100000000 := by have := zr_le t; have := lf_ge t; unfold nfr; omega
    generalize zr t + (nfr (lf t) m * 7 + m) = K at *
    have LCH := hid LC
    have hle' : (K : Int) ≤ (m : Int) + 7 * (((t : Int) % 64 + (K : Int) + 64 - 1) / 64 + 1) + 6 := by omega
    have hge' : (m : Int) + 7 ≤ (K : Int) := by omega
    have q1 : ¬ (t : Int) < 0 := by omega
    have q2 : ¬ (1048576 : Int) < (t : Int) := by omega
    have q3 : ¬ (m : Int) < 0 := by omega
    have q4 : ¬ (20000 : Int) < (m : Int) := by omega
    clear LC hle hge
    go_enter Tryd.func8, Tryd.ntmps8
    go_wp2_with fail
    refine (known_c w).mono ?_
    rintro e w1 ⟨rfl, f1⟩
    go_wp2_with fail
    refine (LCH.out w1).mono ?_
    rintro e w2 ⟨rfl, rfl⟩
    go_wp2
    go_ret
    exact ⟨by simp, f1⟩
  · have hs' : z < 0 ∨ (0 ≤ z ∧ 1048576 < z) ∨ (0 ≤ z ∧ z ≤ 1048576 ∧ n < 0) ∨ (0 ≤ z ∧ z ≤ 1048576 ∧ 0 ≤ n ∧ 20000 < n) := by omega
    rcases hs' with q | ⟨q1, q2⟩ | ⟨q1, q2, q3⟩ | ⟨q1, q2, q3, q4⟩
    all_goals
      go_enter Tryd.func8, Tryd.ntmps8
      go_wp2_with fail
      refine (known_c w).mono ?_
      rintro e w1 ⟨rfl, f1⟩
      go_wp2
      go_ret
      exact ⟨rfl, f1⟩
end Go.Proofs.YtplghoibadmdjaaDoor
