/-
  What lane answers: the lane of 8 bytes of a sponge's block.
-/
import Derived.Test.YthmjglglbdlieaaDoorKT
namespace Go.Proofs.YthmjglglbdlieaaDoor
open Go.ChangeShapes Go.WideShapes Go.ChangeAt Go.RowKit

/-- A sponge's block from a place on. -/
theorem sliceB (w : World) (p l : Nat) (hl : l < 136) : (Instr.sliceAt 44 (.pointer (some ⟨p, 25, none⟩)) (some (.int .i64 (l : Int))) none none).run Tryd.prog w = .ok (.slice (some ⟨p, 25 + l, none⟩) (136 - l) (136 - l)) w := by
  have h1 : Tryd.prog.arrayLen 44 = 136 := by kernel_rfl
  have h3 : (sizeOf (Tryd.prog.elem 44)).run Tryd.prog w = .ok 1 w := by kernel_rfl
  have := run_sliceAt_array_l (P := Tryd.prog) w 44 ⟨p, 25, none⟩ (by kernel_rfl) .i64 (l : Int) (by omega) (by rw [h1]; omega)
  rw [this, h3, h1]
  simp only [Result.andThen_ok, slicedAt, Int.toNat_natCast, Nat.mul_one]
  rw [if_neg (by omega), Addr.add_mid]
theorem lane_val (g : Nat → BitVec 8) (o k : Nat) : bits .or .u64 ((laneO g o k).toNat : Int) (IntKind.u64.wrap (((g (o + k)).toNat : Int) * 2 ^ (8 * k))) = ((laneO g o (k + 1)).toNat : Int) := by
  have h : ((g (o + k)).toNat : Int) = (((g (o + k)).setWidth 64).toNat : Int) := by
    have := (g (o + k)).isLt
    rw [BitVec.toNat_setWidth]
    omega
  rw [h, bits_shl, bits_or]
  rfl
set_option maxRecDepth 20000 in
set_option maxHeartbeats 400000 in
theorem lane_c (w : World) {p : Nat} {s : Sp} (h : IsSp w p s) {i : Nat} (hi : i < 17) :
    Calls Tryd.prog 21 #[.slice (some ⟨p, 25 + 8 * i, none⟩) (136 - 8 * i) (136 - 8 * i)] w fun e w' => e = .returned (.int .u64 ((laneO s.g (8 * i) 8).toNat : Int)) ∧ w' = w := by
  have HS := hid h
  clear h
  go_enter Tryd.func21, Tryd.ntmps21
  go_wp2
  go_loop [3, 9] (fun v3 v9 => ∃ k : Nat, k ≤ 8 ∧ v9 = .int .i64 (k : Int) ∧ v3 = .int .u64 ((laneO s.g (8 * i) k).toNat : Int)) (fun _ v9 => 8 - (intOf v9).toNat)
  case atStart => exact ⟨0, by omega, rfl, rfl⟩
  case round =>
    obtain ⟨k, hk, rfl, rfl⟩ := hrel
    by_cases hlt : k < 8
    · have e0 := HS.out.byte (i := 8 * i + k) (by omega)
      rw [← Nat.add_assoc] at e0
      have hv := lane_val s.g (8 * i) k
      go_wp2
      go_round
      case rel => exact ⟨k + 1, by omega, by go_num, by first | rfl | rw [hv]⟩
      case measure => simp [intOf]; omega
    · have hk8 : k = 8 := by omega
      subst hk8
      go_wp2
      go_ret
      exact ⟨rfl, rfl⟩
end Go.Proofs.YthmjglglbdlieaaDoor
