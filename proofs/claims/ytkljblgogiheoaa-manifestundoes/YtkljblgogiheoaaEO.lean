/-
  The version without anything: checked.
-/
import Derived.Test.YtkljblgogiheoaaEI
namespace Go.Proofs.Ytkljblgogiheoaa
open Go.ChangeShapes Go.WideShapes Go.ChangeAt Go.RowKit

/-- The cells of the version without anything. -/
theorem vz_cells {W : World} {k : Nat} (n : W.heap[k]? = some (.cells #[.int .i64 0, .int .i64 0, .int .u64 0, .slice none 0 0, .slice none 0 0, .slice none 0 0, .slice none 0 0, .slice none 0 0] 26 (0, 0))) : W.cell? ⟨k, 0, none⟩ = some (.int .i64 0) ∧ W.cell? ⟨k, 1, none⟩ = some (.int .i64 0) ∧ W.cell? ⟨k, 2, none⟩ = some (.int .u64 0) ∧ W.cell? ⟨k, 3, none⟩ = some (.slice none 0 0) ∧ W.cell? ⟨k, 4, none⟩ = some (.slice none 0 0) ∧ W.cell? ⟨k, 5, none⟩ = some (.slice none 0 0) ∧ W.cell? ⟨k, 6, none⟩ = some (.slice none 0 0) ∧ W.cell? ⟨k, 7, none⟩ = some (.slice none 0 0) :=
  ⟨by rw [blk_cell n]; rfl, by rw [blk_cell n]; rfl, by rw [blk_cell n]; rfl, by rw [blk_cell n]; rfl, by rw [blk_cell n]; rfl, by rw [blk_cell n]; rfl, by rw [blk_cell n]; rfl, by rw [blk_cell n]; rfl⟩
theorem ix5 {i : Nat} (hi : i < 5) (W : World) : (Instr.index 24 (.agg #[.slice none 0 0, .slice none 0 0, .slice none 0 0, .slice none 0 0, .slice none 0 0]) (.int .i64 (i : Int))).run Try.prog W = .ok (.slice none 0 0) W := by
  rcases (show i = 0 ∨ i = 1 ∨ i = 2 ∨ i = 3 ∨ i = 4 from by omega) with rfl | rfl | rfl | rfl | rfl <;> kernel_rfl
set_option maxRecDepth 20000 in
set_option maxHeartbeats 3200000 in
theorem each0_c (w : World) (h : Value) : Calls Try.prog 30 #[.agg #[.int .i64 0, .int .i64 0, .int .u64 0, .slice none 0 0, .slice none 0 0, .slice none 0 0, .slice none 0 0, .slice none 0 0], h] w fun r w' => r = .returned (.bool true) ∧ Fr [] w w' := by
  have hix : ∀ (i : Nat), i < 5 → ∀ W : World, (Instr.index 24 (.agg #[.slice none 0 0, .slice none 0 0, .slice none 0 0, .slice none 0 0, .slice none 0 0]) (.int .i64 (i : Int))).run Try.prog W = .ok (.slice none 0 0) W := fun i hi W => ix5 hi W
  obtain ⟨W0, hW0⟩ : ∃ W0, W0 = w.alloc (.cells #[.int .i64 0, .int .i64 0, .int .u64 0, .slice none 0 0, .slice none 0 0, .slice none 0 0, .slice none 0 0, .slice none 0 0] 26) := ⟨_, rfl⟩
  have F0 : Hid (Fr [] w W0) := hid (by rw [hW0]; exact (Fr.refl _ _).alloc _)
  have n0 : W0.heap[w.heap.size]? = some (.cells #[.int .i64 0, .int .i64 0, .int .u64 0, .slice none 0 0, .slice none 0 0, .slice none 0 0, .slice none 0 0, .slice none 0 0] 26 (0, 0)) := by rw [hW0]; exact blk_new _ _
  obtain ⟨z0, z1, z2, z3, z4, z5, z6, z7⟩ := vz_cells n0
  clear n0
  go_enter Try.func30, Try.ntmps30
  go_upto_region 1 with fail
  rw [← hW0]
  clear hW0
  go_wp2_with fail
  clear z0 z1 z2 z3 z4 z5 z6 z7
  go_loopw [11] (fun v11 wr => ∃ i : Nat, i ≤ 5 ∧ v11 = .int .i64 (i : Int) ∧ Fr [] w wr) (fun v11 _ => 5 - (intOf v11).toNat)
  case atStart => exact ⟨0, by omega, rfl, F0.out⟩
  case round =>
    obtain ⟨i, hi, rfl, hf⟩ := hrel
    have HF := hid hf
    clear hf
    by_cases hlt : i < 5
    · have hlt' : (i : Int) < 5 := by omega
      have ixi := hix i hlt
      clear hix
      obtain ⟨W1, h1⟩ : ∃ W, W = wr := ⟨_, rfl⟩
      subst h1
      go_wp2_with fail
      go_loopw [16] (fun v16 wr => v16 = .int .i64 0 ∧ Fr [] w wr) (fun _ _ => 0)
      case atStart => exact ⟨rfl, HF.out⟩
      case round =>
        obtain ⟨rfl, hf⟩ := hrel
        have HF2 := hid hf
        clear hf
        go_wp2_with fail
        go_roundw
        case rel => exact ⟨i + 1, by omega, by go_num, HF2.out⟩
        case measure => simp [intOf]; omega
    · have hin : i = 5 := by omega
      subst hin
      go_wp2
      go_ret
      exact ⟨rfl, HF.out⟩
theorem orderOf_c (w : World) (n : Int) : Calls Try.prog 50 #[.int .i64 n] w fun r w' => (∃ v, r = .returned v) ∧ w' = w := by
  by_cases h : n = 0
  · subst h
    go_enter Try.func50, Try.ntmps50
    go_wp2
    go_ret
    exact ⟨⟨_, rfl⟩, rfl⟩
  · go_enter Try.func50, Try.ntmps50
    go_wp2
    go_ret
    exact ⟨⟨_, rfl⟩, rfl⟩
set_option maxRecDepth 20000 in
set_option maxHeartbeats 3200000 in
theorem inOrder0_c (w : World) (n : Int) : Calls Try.prog 32 #[.int .i64 n, .slice none 0 0] w fun r w' => r = .returned (.bool true) ∧ Fr [] w w' := by
  have OC := hid (orderOf_c w n)
  go_enter Try.func32, Try.ntmps32
  go_wp2_with (go_at_call 50; refine OC.out.mono ?_; rintro r W1 ⟨⟨v, rfl⟩, h⟩; rw [h]; clear h)
  go_loopw [6] (fun v6 wr => v6 = .int .i64 1 ∧ Fr [] w wr) (fun _ _ => 0)
  case atStart => exact ⟨rfl, Fr.refl _ _⟩
  case round =>
    obtain ⟨rfl, hf⟩ := hrel
    have HF := hid hf
    clear hf
    go_wp2
    go_ret
    exact ⟨rfl, HF.out⟩
set_option maxRecDepth 20000 in
set_option maxHeartbeats 3200000 in
theorem check0_c (w : World) : Calls Try.prog 14 #[.agg #[.int .i64 0, .int .i64 0, .int .u64 0, .slice none 0 0, .slice none 0 0, .slice none 0 0, .slice none 0 0, .slice none 0 0]] w fun r w' => r = .returned (.int .i64 0) ∧ Fr [] w w' := by
  have hix : ∀ (i : Nat), i < 5 → ∀ W : World, (Instr.index 24 (.agg #[.slice none 0 0, .slice none 0 0, .slice none 0 0, .slice none 0 0, .slice none 0 0]) (.int .i64 (i : Int))).run Try.prog W = .ok (.slice none 0 0) W := fun i hi W => ix5 hi W
  have hmm : ∀ (t : TypeId) (w : World), (Instr.makeMap t none).run Try.prog w = .ok (.map (some w.heap.size)) (w.alloc (.map #[] 0)) := fun _ _ => rfl
  have hmf : ∀ (fn : Fn) (first cap : Array Value) (w : World), (Instr.makeFunc fn first cap).run Try.prog w = .ok (.func fn first cap) w := fun _ _ _ _ => rfl
  obtain ⟨W0, hW0⟩ : ∃ W0, W0 = w.alloc (.cells #[.int .i64 0, .int .i64 0, .int .u64 0, .slice none 0 0, .slice none 0 0, .slice none 0 0, .slice none 0 0, .slice none 0 0] 26) := ⟨_, rfl⟩
  have F0 : Hid (Fr [] w W0) := hid (by rw [hW0]; exact (Fr.refl _ _).alloc _)
  have n0 : Hid (W0.heap[w.heap.size]? = some (.cells #[.int .i64 0, .int .i64 0, .int .u64 0, .slice none 0 0, .slice none 0 0, .slice none 0 0, .slice none 0 0, .slice none 0 0] 26 (0, 0))) := hid (by rw [hW0]; exact blk_new _ _)
  have EA : Hid (∀ W h, _) := hid (fun W h => each0_c W h)
  have HH : Hid (∀ W, _) := hid (fun W => head_c W 0 0 0)
  have hk : okH 0 0 0 = true := by decide
  rw [hk] at HH
  simp only [Int.natCast_zero] at HH
  clear hk
  obtain ⟨W1, hW1⟩ : ∃ W1, W1 = (W0.alloc (.map #[] 0)).alloc (.cells #[.map (some W0.heap.size)] 66) := ⟨_, rfl⟩
  have F1 : Hid (Fr [] W0 W1) := hid (by rw [hW1]; exact ((Fr.refl _ _).alloc _).alloc _)
  go_enter Try.func14, Try.ntmps14
  go_upto_region 1 with fail
  rw [← hW0]
  clear hW0
  go_upto_region 2 with fail
  rw [← hW1]
  clear hW1
  obtain ⟨z0, z1, z2, z3, z4, z5, z6, z7⟩ := vz_cells (F1.out.at n0.out (by simp))
  have CK : Hid (∀ W : World, Fr [] W0 W → _) := hid (fun W fr => vz_cells (fr.at n0.out (by simp)))
  go_upto_region 6 with (first
    | (go_at_call 29; refine (HH.out _).mono ?_; rintro r W2 ⟨rfl, h⟩; rw [h]; clear h)
    | (go_at_call 30; refine (EA.out _ _).mono ?_; rintro r W3 ⟨rfl, f3⟩; have F3 := hid (F1.out.trans f3); clear f3))
  clear z0 z1 z2 z3 z4 z5 z6 z7
  obtain ⟨z0, z1, z2, z3, z4, z5, z6, z7⟩ := CK.out W3 F3.out
  go_upto_region 8 with (go_at_call 30; refine (EA.out _ _).mono ?_; rintro r W4 ⟨rfl, f4⟩; have F4 := hid (F3.out.trans f4); clear f4)
  clear z0 z1 z2 z3 z4 z5 z6 z7
  obtain ⟨z0, z1, z2, z3, z4, z5, z6, z7⟩ := CK.out W4 F4.out
  go_upto_region 10 with (go_at_call 30; refine (EA.out _ _).mono ?_; rintro r W5 ⟨rfl, f5⟩; have F5 := hid (F4.out.trans f5); clear f5)
  clear z0 z1 z2 z3 z4 z5 z6 z7
  obtain ⟨z0, z1, z2, z3, z4, z5, z6, z7⟩ := CK.out W5 F5.out
  go_wp2_with fail
  clear z0 z1 z2 z3 z4 z5 z6 z7 CK EA HH
  go_loopw [37] (fun v37 wr => ∃ i : Nat, i ≤ 5 ∧ v37 = .int .i64 (i : Int) ∧ Fr [] w wr) (fun v37 _ => 5 - (intOf v37).toNat)
  case atStart => exact ⟨0, by omega, rfl, F0.out.trans F5.out⟩
  case round =>
    obtain ⟨i, hi, rfl, hf⟩ := hrel
    have HF := hid hf
    clear hf
    by_cases hlt : i < 5
    · have hlt' : (i : Int) < 5 := by omega
      have ixi := hix i hlt
      clear hix
      have IO := hid (inOrder0_c wr (i : Int))
      go_wp2_with (go_at_call 32; refine IO.out.mono ?_; rintro r W6 ⟨rfl, f6⟩; have F6 := hid f6; clear f6)
      go_roundw
      case rel => exact ⟨i + 1, by omega, by go_num, HF.out.trans F6.out⟩
      case measure => simp [intOf]; omega
    · have hin : i = 5 := by omega
      subst hin
      go_wp2
      go_ret
      exact ⟨rfl, HF.out⟩
end Go.Proofs.Ytkljblgogiheoaa
