/-
  What room, Length and kindOf of package wal answer.
-/
import Derived.Test.YtplghoibadmdjaaDoorWO
import Derived.Test.YtplghoibadmdjaaDoorSl
namespace Go.Proofs.YtplghoibadmdjaaDoor
open Go.ChangeShapes Go.WideShapes Go.ChangeAt Go.RowKit

set_option maxRecDepth 20000 in
theorem room_nat (w : World) (t : Nat) (h : t ≤ 9223372036854775807) :
    Calls Tryd.prog 23 #[.int .i64 (t : Int)] w fun e w' => e = .returned (.tuple #[.int .i64 (zr t : Int), .int .i64 (lf t : Int)]) ∧ w' = w := by
  by_cases hz : 64 - t % 64 < 7
  · have hz' : (64 : Int) - (t : Int) % 64 < 7 := by omega
    have hm : max (t : Int) 0 = (t : Int) := by omega
    go_enter Tryd.func23, Tryd.ntmps23
    go_wp2
    go_ret2
    exact ⟨by unfold zr lf; rw [if_pos hz, if_pos hz]; go_num, rfl⟩
  · have hz' : 7 ≤ (64 : Int) - (t : Int) % 64 := by omega
    have hm : max (t : Int) 0 = (t : Int) := by omega
    go_enter Tryd.func23, Tryd.ntmps23
    go_wp2
    go_ret2
    exact ⟨by unfold zr lf; rw [if_neg hz, if_neg hz]; go_num, rfl⟩
set_option maxRecDepth 20000 in
theorem room_c (w : World) (z : Int) (h : z ≤ 9223372036854775807) :
    Calls Tryd.prog 23 #[.int .i64 z] w fun e w' => e = .returned (.tuple #[.int .i64 (zr z.toNat : Int), .int .i64 (lf z.toNat : Int)]) ∧ w' = w := by
  by_cases hz : 0 ≤ z
  · obtain ⟨t, rfl⟩ : ∃ t : Nat, z = (t : Int) := ⟨z.toNat, by omega⟩
    exact room_nat w t (by omega)
  · have hm : max z 0 = 0 := by omega
    have h0 : z.toNat = 0 := by omega
    rw [h0]
    clear h0
    go_enter Tryd.func23, Tryd.ntmps23
    go_wp2
    go_ret2
    exact ⟨rfl, rfl⟩

theorem nfr_int {l n : Nat} (h7 : 7 ≤ l) (_h64 : l ≤ 64) : 1 + (max ((n : Int) - ((l : Int) - 7)) 0 + 57 - 1) / 57 = ((nfr l n : Nat) : Int) := by
  unfold nfr; omega

set_option maxRecDepth 20000 in
theorem length_c (w : World) (z : Int) (h : z ≤ 9223372036854775807) (n : Nat) (hn : n ≤ 4194304) :
    Calls Tryd.prog 13 #[.int .i64 z, .int .i64 (n : Int)] w fun e w' => e = .returned (.int .i64 ((zr z.toNat + (nfr (lf z.toNat) n * 7 + n) : Nat) : Int)) ∧ w' = w := by
  have h1 := lf_ge z.toNat
  have h2 := lf_le z.toNat
  have h3 := zr_le z.toNat
  have h4 := room_c w z h
  generalize zr z.toNat = q at *
  generalize lf z.toNat = l at *
  have h5 := nfr_int (n := n) h1 h2
  have h6 : nfr l n ≤ 100000 := by unfold nfr; omega
  have h7 : (max ((n : Int) - ((l : Int) - 7)) 0) ≤ 4194304 ∧ 0 ≤ (max ((n : Int) - ((l : Int) - 7)) 0) := by omega
  have h5' := hid h5
  clear h5
  generalize nfr l n = k at *
  generalize hmx : max ((n : Int) - ((l : Int) - 7)) 0 = m at *
  obtain ⟨h7, h8⟩ := h7
  go_enter Tryd.func13, Tryd.ntmps13
  go_wp2_with (go_at_call 23; refine h4.mono ?_; rintro e w' ⟨rfl, rfl⟩)
  all_goals
    go_ret
    refine ⟨?_, rfl⟩
    have := h5'.out
    simp
    omega
set_option maxRecDepth 20000 in
theorem length_no (w : World) (z n : Int) (hn : n < 0 ∨ 4194304 < n) :
    Calls Tryd.prog 13 #[.int .i64 z, .int .i64 n] w fun e w' => e = .returned (.int .i64 0) ∧ w' = w := by
  rcases hn with hn | hn
  · go_enter Tryd.func13, Tryd.ntmps13
    go_wp2
    go_ret
    exact ⟨rfl, rfl⟩
  · have hn' : ¬ n < 0 := by omega
    go_enter Tryd.func13, Tryd.ntmps13
    go_wp2
    go_ret
    exact ⟨rfl, rfl⟩
theorem kindOf_c (w : World) (bg en : Bool) : Calls Tryd.prog 25 #[.bool bg, .bool en] w fun e w' => e = .returned (.int .u8 (kd bg en : Int)) ∧ w' = w := by
  cases bg <;> cases en
  all_goals
    go_enter Tryd.func25, Tryd.ntmps25
    go_wp2
    go_ret
    exact ⟨rfl, rfl⟩
end Go.Proofs.YtplghoibadmdjaaDoor
