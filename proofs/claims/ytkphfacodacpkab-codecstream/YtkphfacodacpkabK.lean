/-
  The statements' own known examples, and their comparison of bytes.
-/
import Derived.Test.YtkphfacodacpkabI
import Derived.Test.YtkphfacodacpkabE
import Derived.Lib.SlBytesConst
namespace Go.Proofs.Ytkphfacodacpkab
open Go.ChangeShapes Go.WideShapes Go.ChangeAt Go.RowKit

theorem str_key : strOf (keyL [] 1 1) = ⟨#[1, 1, 0, 0, 0, 0, 0, 0]⟩ := by decide
theorem crc_known : crc [49, 50, 51, 52, 53, 54, 55, 56, 57] = 3808858755 := by decide +kernel
theorem put_known : putL 300 = [172, 2] := by rw [putL_ge (by omega), putL_lt (by omega)]
theorem str_put : strOf [172, 2] = ⟨#[172, 2]⟩ := by decide

theorem beq_str (s t : ByteArray) : (s.toList == t.toList) = decide (s = t) := by
  by_cases h : s = t
  · subst h; simp
  · have : s.toList ≠ t.toList := fun e => h (by
      cases s with | mk a => cases t with | mk b =>
      have h1 : a.toList = b.toList := by simpa [ByteArray.toList_eq] using e
      rw [Array.toList_inj.1 h1])
    simp [this, h]

set_option maxRecDepth 20000 in
set_option maxHeartbeats 800000 in
theorem known_c (w : World) : Calls Try.prog 6 #[] w fun e w' => e = .returned (.bool true) ∧ Fr [] w w' := by
  have kc := fun (w : World) (C : Array Value) (n c : Nat) => Lib.run_convert_bytes_const (P := Try.prog) w 22 5 C n c Try.underlying22 Try.underlying5
  go_enter Try.func6, Try.ntmps6
  go_wp2_with fail
  refine (key_ok w (v := .slice none 0 0) (u := []) (.inl ⟨rfl, rfl⟩) (by simp) 1 1 (by omega) (by omega)).mono ?_
  rintro e w1 ⟨v1, rfl, o1, f1⟩
  obtain ⟨a1, c1, rfl, _⟩ := ownsRow_slice o1
  have hcv := run_conv (Rd.ownB o1)
  rw [str_key] at hcv
  have F1 := hid f1
  clear o1 f1
  go_wp2_with fail
  have R2 : Hid (Rd (w1.alloc (.cells #[.int .u8 49, .int .u8 50, .int .u8 51, .int .u8 52, .int .u8 53, .int .u8 54, .int .u8 55, .int .u8 56, .int .u8 57] 5 (9, 10))) (.slice (some ⟨w1.heap.size, 0, none⟩) 9 9) (bv [49, 50, 51, 52, 53, 54, 55, 56, 57])) := by
    refine .inr ⟨_, _, rfl, by simp [bv], fun j u hj => ?_⟩
    rw [Addr.add_lit, Nat.zero_add, World.cell?_alloc_mark]
    rw [← Array.getElem?_toList]
    exact hj
  have F2 : Hid (Fr [] w (w1.alloc (.cells #[.int .u8 49, .int .u8 50, .int .u8 51, .int .u8 52, .int .u8 53, .int .u8 54, .int .u8 55, .int .u8 56, .int .u8 57] 5 (9, 10)))) := F1.out.alloc _
  refine (sum_c R2.out (by unfold By; decide) (by simp)).mono ?_
  rintro e w2 ⟨rfl, rfl⟩
  rw [crc_known]
  clear F1 R2 hcv
  go_wp2_with fail
  refine (put_c _ 300 (by omega)).mono ?_
  rintro e w3 ⟨v3, rfl, o3, f3⟩
  rw [put_known] at o3
  replace o3 : w3.ownsRow _ 5 1 v3 2 (bv [172, 2]) := o3
  obtain ⟨a3, c3, rfl, _⟩ := ownsRow_slice o3
  have hcv := run_conv (Rd.ownB (ns := [172, 2]) o3)
  rw [str_put] at hcv
  have F3 := hid (F2.out.trans f3)
  clear o3 f3 F2
  go_wp2
  go_ret
  exact ⟨rfl, F3.out⟩

set_option maxHeartbeats 400000 in
theorem bytes_c {w : World} {v1 v2 : Value} {a b : List Nat} (h1 : Rd w v1 (bv a)) (h2 : Rd w v2 (bv b)) (ha : By a) (hb : By b) :
    Calls Try.prog 13 #[v1, v2] w fun e w' => e = .returned (.bool (decide (a = b))) ∧ w' = w := by
  have e1 := run_conv h1
  have e2 := run_conv h2
  have e3 : ((strOf a).toList == (strOf b).toList) = decide (a = b) := by
    rw [beq_str]
    by_cases h : a = b
    · subst h; simp
    · have : strOf a ≠ strOf b := fun e => h (strOf_inj ha hb e)
      simp [this, h]
  obtain ⟨a1, c1, rfl⟩ := h1.form
  obtain ⟨a2, c2, rfl⟩ := h2.form
  clear h1 h2 ha hb
  go_enter Try.func13, Try.ntmps13
  go_wp2
  go_ret
  exact ⟨rfl, rfl⟩
end Go.Proofs.Ytkphfacodacpkab
