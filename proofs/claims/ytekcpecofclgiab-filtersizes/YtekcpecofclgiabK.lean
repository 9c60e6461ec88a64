/-
  The statements' own known examples, and their comparison of bytes.
-/
import Derived.Test.YtekcpecofclgiabI
import Derived.Test.YtekcpecofclgiabE
import Derived.Lib.SlBytesConst
namespace Go.Proofs.Ytekcpecofclgiab
open Go.ChangeShapes Go.WideShapes Go.ChangeAt Go.RowKit

theorem str_key : strOf (keyL [] 1 1) = ⟨#[1, 1, 0, 0, 0, 0, 0, 0]⟩ := by decide
theorem crc_known : crc [49, 50, 51, 52, 53, 54, 55, 56, 57] = 3808858755 := by decide +kernel
theorem put_known : putL 300 = [172, 2] := by rw [putL_ge (by omega), putL_lt (by omega)]
theorem str_put : strOf [172, 2] = ⟨#[172, 2]⟩ := by decide

theorem beq_str (s t : ByteArray) : (s.toList == t.toList) = decide (s = t) := by
  by_cases h : s = t
  · subst h; simp
  · have : s.toList ≠ t.toList := fun e => h (by
      cases s with | mk a => cases t with | mk b =>
      have h1 : a.toList = b.toList := by simpa [ByteArray.toList_eq] using e
      rw [Array.toList_inj.1 h1])
    simp [this, h]

end Go.Proofs.Ytekcpecofclgiab
