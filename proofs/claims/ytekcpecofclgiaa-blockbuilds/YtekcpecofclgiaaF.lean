/-
  What Fixed4, Fixed8 of package codec answer, and the reference's Fixed.
-/
import Derived.Test.YtekcpecofclgiaaD
namespace Go.Proofs.Ytekcpecofclgiaa
open Go.ChangeShapes Go.WideShapes Go.ChangeAt Go.RowKit

theorem set_fix (n k z : Nat) (hk : k < z) : (bv (fixL n k ++ List.replicate (z - k) 0)).set k (.int .u8 ((n / 2 ^ (8 * k) % 256 : Nat) : Int)) = bv (fixL n (k + 1) ++ List.replicate (z - (k + 1)) 0) := by
  rw [fixL_snoc, pow8, show z - k = (z - (k + 1)) + 1 from by omega, List.replicate_succ, List.append_assoc, bv_append, bv_append, List.set_append, if_neg (by rw [bv_len, fixL_len]; omega), bv_len, fixL_len, Nat.sub_self]
  rfl
theorem fix_val (n k : Nat) : ((n / 2 ^ (8 * k) % 256 : Nat) : Int) = (n : Int) / 2 ^ (8 * k) % 256 := by simp

set_option maxRecDepth 20000 in
set_option maxHeartbeats 800000 in
theorem fixed_c (w : World) (n z : Nat) (_hn : n < 18446744073709551616) (hz : z ≤ 8) :
    Calls Try.prog 51 #[.int .u64 (n : Int), .int .i64 (z : Int)] w fun e w' => ∃ v, e = .returned v ∧ w'.ownsRow w.heap.size 5 1 v z (bv (fixL n z)) ∧ Fr [] w w' := by
  obtain ⟨i0, hi, hz0, hz1, hz2⟩ := info_parts infoB
  have hmk : (Instr.makeSlice 26 (.int .i64 (z : Int)) (.int .i64 (z : Int))).run Try.prog w = .ok (.slice (some ⟨w.heap.size, 0, none⟩) z z) (w.alloc (.cells (madeCells #[.int .u8 0] z) 5)) := by
    have h := run_make (P := Try.prog) w 26 5 i0 (.int .u8 0) Try.underlying26 hi hz0 .i64 .i64 (z : Int) (z : Int) (by omega) (Int.le_refl _) (by rw [hz2]; omega) (by omega)
    simpa [hz1, Value.cells] using h
  have HO : Hid ((w.alloc (.cells (madeCells #[.int .u8 0] z) 5)).ownsRow w.heap.size 5 1 (.slice (some ⟨w.heap.size, 0, none⟩) z z) z (bv (fixL n 0 ++ List.replicate (z - 0) 0))) := by
    have := World.ownsRow_lit (base := w.heap.size) (e := 5) (size := 1) w (madeCells #[.int .u8 0] z) z (Nat.le_refl _) (by unfold maxLen; omega) (by simp [madeCells])
    have e : (madeCells #[.int .u8 0] z).toList = bv (fixL n 0 ++ List.replicate (z - 0) 0) := by
      simp [madeCells, fixL, bv]
      rw [List.eq_replicate_iff]
      simp [Nat.mod_one]
    rw [← e]; exact this
  have HF : Hid (Fr [] w (w.alloc (.cells (madeCells #[.int .u8 0] z) 5))) := (Fr.refl _ _).alloc _
  clear hi hz0 hz1 hz2
  go_enter Try.func51, Try.ntmps51
  go_wp2
  go_loopw [10] (fun v10 wr => ∃ k : Nat, k ≤ z ∧ v10 = .int .i64 (k : Int) ∧ wr.ownsRow w.heap.size 5 1 (.slice (some ⟨w.heap.size, 0, none⟩) z z) z (bv (fixL n k ++ List.replicate (z - k) 0)) ∧ Fr [] w wr) (fun v10 _ => z - (intOf v10).toNat)
  case atStart => exact ⟨0, by omega, rfl, HO.out, HF.out⟩
  case round =>
    obtain ⟨k, hk, rfl, ho, hf⟩ := hrel
    have hfz := ho.frozenAt k
    have RO := hid ho
    have RF := hid hf
    have hcl : k < z → ∃ u, wr.cell? ⟨w.heap.size, k, none⟩ = some u := fun h => by
      rw [ho.cellAt k (by omega)]
      exact ⟨_, List.getElem?_eq_getElem (by rw [bv_len, List.length_append, fixL_len, List.length_replicate]; omega)⟩
    clear ho hf
    by_cases hlt : k < z
    · obtain ⟨u, hc⟩ := hcl hlt
      go_wp2
      have S := RO.out.stored k (.int .u8 ((n / 2 ^ (8 * k) % 256 : Nat) : Int))
      rw [set_fix n k z hlt, fix_val] at S
      go_roundw
      case rel => exact ⟨k + 1, by omega, by go_num, S.1, RF.out.grown S.2 fun q hq => .inr (by cases hq; omega)⟩
      case measure => simp [intOf]; omega
    · have : k = z := by omega
      subst this
      go_wp2
      go_ret
      refine ⟨_, rfl, ?_, RF.out⟩
      have := RO.out
      rw [Nat.sub_self, List.replicate_zero, List.append_nil] at this
      exact this

set_option maxHeartbeats 400000 in
theorem fixed8_c (w : World) (n : Nat) (hn : n < 18446744073709551616) :
    Calls Try.prog 49 #[.int .u64 (n : Int)] w fun e w' => ∃ v, e = .returned v ∧ w'.ownsRow w.heap.size 5 1 v 8 (bv (fixL n 8)) ∧ Fr [] w w' := by
  go_enter Try.func49, Try.ntmps49
  go_wp2_with (go_at_call 51; refine (fixed_c _ n 8 hn (by omega)).mono ?_; rintro e w' ⟨v, rfl, h1, h2⟩)
  go_ret
  exact ⟨v, rfl, h1, h2⟩
set_option maxHeartbeats 400000 in
theorem fixed4_c (w : World) (n : Nat) (hn : n < 4294967296) :
    Calls Try.prog 30 #[.int .u32 (n : Int)] w fun e w' => ∃ v, e = .returned v ∧ w'.ownsRow w.heap.size 5 1 v 4 (bv (fixL n 4)) ∧ Fr [] w w' := by
  go_enter Try.func30, Try.ntmps30
  go_wp2_with (go_at_call 51; refine (fixed_c _ n 4 (by omega) (by omega)).mono ?_; rintro e w' ⟨v, rfl, h1, h2⟩)
  go_ret
  exact ⟨v, rfl, h1, h2⟩

set_option maxRecDepth 20000 in
set_option maxHeartbeats 800000 in
theorem reffixed_c (w : World) (n z : Nat) (_hn : n < 18446744073709551616) (hz : z ≤ 8) :
    Calls Try.prog 56 #[.int .u64 (n : Int), .int .i64 (z : Int)] w fun e w' => ∃ v, e = .returned v ∧ w'.ownsRow w.heap.size 5 1 v z (bv (fixL n z)) ∧ Fr [] w w' := by
  go_enter Try.func56, Try.ntmps56
  go_wp2
  go_loopw [5, 6] (fun v5 v6 wr => ∃ k : Nat, k ≤ z ∧ v6 = .int .i64 (k : Int) ∧ wr.ownsRow w.heap.size 5 1 v5 k (bv (fixL n k)) ∧ Fr [] w wr) (fun _ v6 _ => z - (intOf v6).toNat)
  case atStart => exact ⟨0, by omega, rfl, World.ownsRow_nil _ _ _ _, Fr.refl _ _⟩
  case round =>
    obtain ⟨k, hk, rfl, ho, hf⟩ := hrel
    have RO := hid ho
    have RF := hid hf
    have hsz := hf.size
    clear ho hf
    by_cases hlt : k < z
    · go_wp2_with (at_builtin; refine wpList_append_rd rfl _ _ rfl w.heap.size (by simp; omega) _ _ _ rfl (RO.out.alloc _) _ [_] rfl (Rd_lit1 _ _) (by simp [Value.oneCell']) (by simp; omega) ?_; intro v' w' o1 o2 o3)
      have B : Hid (w'.ownsRow w.heap.size 5 1 v' (k + 1) (bv (fixL n (k + 1))) ∧ Fr [] w w') := by
        refine ⟨?_, (RF.out.alloc _).grew (RO.out.alloc _) (Nat.le_refl _) o2⟩
        rw [fixL_snoc, bv_append, ← pow8]
        show w'.ownsRow w.heap.size 5 1 v' (k + 1) (bv (fixL n k) ++ [Value.int .u8 ((n / 2 ^ (8 * k) % 256 : Nat) : Int)])
        rw [fix_val]
        exact o1
      clear o1 o2 o3
      go_wp2
      go_roundw
      case rel => exact ⟨k + 1, by omega, by go_num, B.out⟩
      case measure => simp [intOf]; omega
    · have : k = z := by omega
      subst this
      go_wp2
      go_ret
      exact ⟨_, rfl, RO.out, RF.out⟩
end Go.Proofs.Ytekcpecofclgiaa
