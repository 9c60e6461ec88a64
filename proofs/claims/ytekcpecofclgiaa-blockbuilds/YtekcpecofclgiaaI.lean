/-
  What Key of package codec answers, and the reference's.
-/
import Derived.Test.YtekcpecofclgiaaF
import Derived.Test.YtekcpecofclgiaaH
namespace Go.Proofs.Ytekcpecofclgiaa
open Go.ChangeShapes Go.WideShapes Go.ChangeAt Go.RowKit

/-- May these be a user key's length, a sequence number, a kind? -/
def vb (l s : Nat) (k : Int) : Bool := decide (l ≤ 128) && (decide (s ≤ 72057594037927935) && (k == 0 || k == 1))
/-- The bytes of an internal key. -/
def keyL (u : List Nat) (s k : Nat) : List Nat := u ++ fixL (256 * s + k) 8

set_option maxHeartbeats 400000 in
theorem valid_x (w : World) (a : Option Addr) (l c s : Nat) (k : Int) :
    Calls Try.prog 48 #[.agg #[.slice a l c, .int .u64 (s : Int), .int .i64 k]] w fun e w' => e = .returned (.bool (vb l s k)) ∧ w' = w.alloc (.cells #[.slice a l c, .int .u64 (s : Int), .int .i64 k] 85) := by
  by_cases h1 : l ≤ 128
  · by_cases h2 : s ≤ 72057594037927935
    · by_cases h3 : k = 0
      · subst h3
        have hv : vb l s 0 = true := by simp [vb, h1, h2]
        rw [hv]
        clear hv
        go_enter Try.func48, Try.ntmps48
        go_wp2
        go_ret
        exact ⟨rfl, rfl⟩
      · have h3' : (k == 0) = false := by simpa using h3
        have hv : vb l s k = (k == 1) := by simp [vb, h1, h2, h3]
        rw [hv]
        clear hv h3
        rcases hk : (k == 1) with _ | _
        · go_enter Try.func48, Try.ntmps48
          go_wp2
          go_ret
          exact ⟨rfl, rfl⟩
        · go_enter Try.func48, Try.ntmps48
          go_wp2
          go_ret
          exact ⟨rfl, rfl⟩
    · have hv : vb l s k = false := by simp [vb, h2]
      rw [hv]
      clear hv
      go_enter Try.func48, Try.ntmps48
      go_wp2
      go_ret
      exact ⟨rfl, rfl⟩
  · have hv : vb l s k = false := by simp [vb, h1]
    rw [hv]
    clear hv
    go_enter Try.func48, Try.ntmps48
    go_wp2
    go_ret
    exact ⟨rfl, rfl⟩

theorem valid_c (w : World) (a : Option Addr) (l c s : Nat) (k : Int) :
    Calls Try.prog 48 #[.agg #[.slice a l c, .int .u64 (s : Int), .int .i64 k]] w fun e w' => e = .returned (.bool (vb l s k)) ∧ Fr [] w w' := by
  refine (valid_x w a l c s k).mono ?_
  rintro e w' ⟨rfl, rfl⟩
  exact ⟨rfl, (Fr.refl _ _).alloc _⟩

set_option maxHeartbeats 400000 in
theorem key_bad (w : World) {v : Value} {u : List Nat} (hr : Rd w v (bv u)) (s : Nat) (k : Int) (h : vb u.length s k = false) :
    Calls Try.prog 28 #[v, .int .u64 (s : Int), .int .i64 k] w fun e w' => e = .returned (.tuple #[.slice none 0 0, .int .i64 23]) ∧ Fr [] w w' := by
  obtain ⟨a, c, rfl⟩ := hr.form
  rw [bv_len]
  have HV := hid h
  clear hr h
  go_enter Try.func28, Try.ntmps28
  go_wp2_with (go_at_call 48; refine (valid_c _ a u.length c s k).mono ?_; rintro e w1 ⟨rfl, f1⟩; rw [HV.out])
  go_ret2
  exact ⟨rfl, ((Fr.refl _ _).alloc _).trans f1⟩

theorem key_val {s k : Nat} (hs : s ≤ 72057594037927935) (hk : k ≤ 1) : bits .or .u64 ((s : Int) * 256) (k : Int) = ((256 * s + k : Nat) : Int) := by
  rw [show (s : Int) * 256 = ((s * 256 : Nat) : Int) from by omega, u64_or_nat _ _ (by omega) (by omega), nat_join 8 (s * 256) k (by omega) (by omega)]
  omega

set_option maxRecDepth 20000 in
set_option maxHeartbeats 400000 in
theorem key_ok (w : World) {v : Value} {u : List Nat} (hr : Rd w v (bv u)) (hu : u.length ≤ 128) (s k : Nat) (hs : s ≤ 72057594037927935) (hk : k ≤ 1) :
    Calls Try.prog 28 #[v, .int .u64 (s : Int), .int .i64 (k : Int)] w fun e w' => ∃ v', e = .returned (.tuple #[v', .int .i64 0]) ∧ w'.ownsRow w.heap.size 5 1 v' (keyL u s k).length (bv (keyL u s k)) ∧ Fr [] w w' := by
  have hv : vb u.length s (k : Int) = true := by
    rcases (show k = 0 ∨ k = 1 from by omega) with rfl | rfl <;> simp [vb, hu, hs]
  obtain ⟨a, c, hvf⟩ := hr.form
  rw [bv_len] at hvf
  subst hvf
  have HV := hid hv
  have HR := hid hr
  obtain ⟨t, ht⟩ : ∃ t, t = 256 * s + k := ⟨_, rfl⟩
  have hkv := key_val hs hk
  rw [← ht] at hkv
  have ht1 : t < 18446744073709551616 := by omega
  have HT := hid ht
  clear hv hr ht
  go_enter Try.func28, Try.ntmps28
  go_wp2_with (go_at_call 48; refine (valid_c _ a u.length c s k).mono ?_; rintro e w1 ⟨rfl, f1⟩; rw [HV.out])
  have F1 := hid (((Fr.refl [] w).alloc _).trans f1)
  clear f1
  refine (fixed8_c w1 t ht1).mono ?_
  rintro e w2 ⟨v2, rfl, o2, f2⟩
  obtain ⟨a2, c2, rfl, _⟩ := ownsRow_slice o2
  have F2 := hid (F1.out.trans f2)
  have R1 := hid (HR.out.fr F2.out)
  have R2 : Hid (Rd w2 (.slice a2 8 c2) (bv (fixL t 8))) := Rd.ownB (base := w1.heap.size) (by rw [fixL_len]; exact o2)
  clear o2 f2
  go_wp2_with fail
  refine (concat2_c R1.out R2.out (by rw [fixL_len]; omega)).mono ?_
  rintro e w3 ⟨v3, rfl, o3, f3⟩
  have O3 : Hid (w3.ownsRow w.heap.size 5 1 v3 (keyL u s k).length (bv (keyL u s k))) := by
    unfold keyL; rw [← HT.out]; exact ownsRow_base o3 F2.out.size
  have F3 := hid (F2.out.trans f3)
  clear o3 f3
  go_wp2
  go_ret2
  exact ⟨v3, rfl, O3.out, F3.out⟩
end Go.Proofs.Ytekcpecofclgiaa
