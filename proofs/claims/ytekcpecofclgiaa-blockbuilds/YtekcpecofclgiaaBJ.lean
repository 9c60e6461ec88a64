/-
  sort.Search; restartOf.
-/
import Derived.Test.YtekcpecofclgiaaBI
namespace Go.Proofs.Ytekcpecofclgiaa
open Go.ChangeShapes Go.WideShapes Go.ChangeAt Go.RowKit

set_option maxRecDepth 20000 in
set_option maxHeartbeats 3200000 in
theorem search_r (w : World) (n : Nat) (hn : n ≤ 1000000000) (x1 x2 : Value) (P : Nat → Bool)
    (hF : ∀ h W, h < n → Fr [] w W → Calls Try.prog 73 #[.int .i64 (h : Int), x1, x2] W fun e w' => e = .returned (.bool (P h)) ∧ Fr [] W w') :
    Calls Try.prog 66 #[.int .i64 (n : Int), .func (.func 73) #[] #[x1, x2]] w fun e w' => ∃ k : Nat, e = .returned (.int .i64 (k : Int)) ∧ k ≤ n ∧ (k < n → P k = true) ∧ (0 < k → P (k - 1) = false) ∧ Fr [] w w' := by
  have HF := hid hF
  clear hF
  go_enter Try.func66, Try.ntmps66
  go_wp2_with fail
  go_loopw [5, 6] (fun v5 v6 wr => ∃ i j : Nat, v5 = .int .i64 (i : Int) ∧ v6 = .int .i64 (j : Int) ∧ i ≤ j ∧ j ≤ n ∧ (j < n → P j = true) ∧ (0 < i → P (i - 1) = false) ∧ Fr [] w wr) (fun v5 v6 _ => (intOf v6).toNat - (intOf v5).toNat)
  case atStart => exact ⟨0, n, rfl, rfl, Nat.zero_le _, Nat.le_refl _, fun h => by omega, fun h => by omega, Fr.refl _ _⟩
  case round =>
    obtain ⟨i, j, rfl, rfl, hij, hjn, h1, h2, hf⟩ := hrel
    have H := hid (And.intro h1 (And.intro h2 hf))
    clear h1 h2 hf
    by_cases hlt : i < j
    · obtain ⟨h, hh⟩ : ∃ h, h = (i + j) / 2 := ⟨_, rfl⟩
      have hdv : ((i : Int) + (j : Int)) / 2 = (h : Int) := by omega
      have hh1 : i ≤ h := by omega
      have hh2 : h < j := by omega
      have HC := hid (HF.out h wr (by omega) H.out.2.2)
      clear hh
      go_wp2_with fail
      refine HC.out.mono ?_
      rintro e w1 ⟨rfl, f1⟩
      have F1 := hid (H.out.2.2.trans f1)
      clear f1 HC
      rcases hp : P h with _ | _
      · have HP := hid hp
        clear hp
        go_wp2
        go_roundw
        case rel => exact ⟨h + 1, j, by go_num, rfl, by omega, hjn, H.out.1, fun _ => by rw [Nat.add_sub_cancel]; exact HP.out, F1.out⟩
        case measure => simp [intOf]; omega
      · have HP := hid hp
        clear hp
        go_wp2
        go_roundw
        case rel => exact ⟨i, h, rfl, rfl, by omega, by omega, fun _ => HP.out, H.out.2.1, F1.out⟩
        case measure => simp [intOf]; omega
    · have hij' : i = j := by omega
      subst hij'
      go_wp2
      go_ret
      exact ⟨i, rfl, hjn, H.out.1, H.out.2.1, H.out.2.2⟩
set_option maxRecDepth 20000 in
set_option maxHeartbeats 3200000 in
theorem search_f (w : World) (n : Nat) (hn : n ≤ 1000000000) (x1 x2 : Value) (P : Nat → Bool)
    (hF : ∀ h W, h < n → Fr [] w W → Calls Try.prog 67 #[.int .i64 (h : Int), x1, x2] W fun e w' => e = .returned (.bool (P h)) ∧ Fr [] W w') :
    Calls Try.prog 66 #[.int .i64 (n : Int), .func (.func 67) #[] #[x1, x2]] w fun e w' => ∃ k : Nat, e = .returned (.int .i64 (k : Int)) ∧ k ≤ n ∧ (k < n → P k = true) ∧ (0 < k → P (k - 1) = false) ∧ Fr [] w w' := by
  have HF := hid hF
  clear hF
  go_enter Try.func66, Try.ntmps66
  go_wp2_with fail
  go_loopw [5, 6] (fun v5 v6 wr => ∃ i j : Nat, v5 = .int .i64 (i : Int) ∧ v6 = .int .i64 (j : Int) ∧ i ≤ j ∧ j ≤ n ∧ (j < n → P j = true) ∧ (0 < i → P (i - 1) = false) ∧ Fr [] w wr) (fun v5 v6 _ => (intOf v6).toNat - (intOf v5).toNat)
  case atStart => exact ⟨0, n, rfl, rfl, Nat.zero_le _, Nat.le_refl _, fun h => by omega, fun h => by omega, Fr.refl _ _⟩
  case round =>
    obtain ⟨i, j, rfl, rfl, hij, hjn, h1, h2, hf⟩ := hrel
    have H := hid (And.intro h1 (And.intro h2 hf))
    clear h1 h2 hf
    by_cases hlt : i < j
    · obtain ⟨h, hh⟩ : ∃ h, h = (i + j) / 2 := ⟨_, rfl⟩
      have hdv : ((i : Int) + (j : Int)) / 2 = (h : Int) := by omega
      have hh1 : i ≤ h := by omega
      have hh2 : h < j := by omega
      have HC := hid (HF.out h wr (by omega) H.out.2.2)
      clear hh
      go_wp2_with fail
      refine HC.out.mono ?_
      rintro e w1 ⟨rfl, f1⟩
      have F1 := hid (H.out.2.2.trans f1)
      clear f1 HC
      rcases hp : P h with _ | _
      · have HP := hid hp
        clear hp
        go_wp2
        go_roundw
        case rel => exact ⟨h + 1, j, by go_num, rfl, by omega, hjn, H.out.1, fun _ => by rw [Nat.add_sub_cancel]; exact HP.out, F1.out⟩
        case measure => simp [intOf]; omega
      · have HP := hid hp
        clear hp
        go_wp2
        go_roundw
        case rel => exact ⟨i, h, rfl, rfl, by omega, by omega, fun _ => HP.out, H.out.2.1, F1.out⟩
        case measure => simp [intOf]; omega
    · have hij' : i = j := by omega
      subst hij'
      go_wp2
      go_ret
      exact ⟨i, rfl, hjn, H.out.1, H.out.2.1, H.out.2.2⟩
end Go.Proofs.Ytekcpecofclgiaa
