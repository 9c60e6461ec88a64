/-
  What the reference's Key answers.
-/
import Derived.Test.YtkphfacodacpkaaJ
namespace Go.Proofs.Ytkphfacodacpkaa
open Go.ChangeShapes Go.WideShapes Go.ChangeAt Go.RowKit

set_option maxHeartbeats 800000 in
theorem refkey_bad (w : World) {v : Value} {u : List Nat} (hr : Rd w v (bv u)) (hl : u.length ≤ 140737488355328) (s : Nat) (hs : s < 18446744073709551616) (k : Int) (hk1 : -9223372036854775808 ≤ k) (hk2 : k ≤ 9223372036854775807) (h : vb u.length s k = false) :
    Calls Try.prog 28 #[v, .int .u64 (s : Int), .int .i64 k] w fun e w' => e = .returned (.tuple #[.slice none 0 0, .int .i64 23]) ∧ w' = w := by
  obtain ⟨a, c, hv⟩ := hr.form
  rw [bv_len] at hv
  subst hv
  clear hr
  have hq : ¬ (u.length ≤ 128) ∨ (u.length ≤ 128 ∧ ¬ (s ≤ 72057594037927935)) ∨ (u.length ≤ 128 ∧ s ≤ 72057594037927935 ∧ k < 0) ∨ (u.length ≤ 128 ∧ s ≤ 72057594037927935 ∧ 0 ≤ k ∧ 1 < k) := by
    unfold vb at h
    by_cases h1 : u.length ≤ 128
    · by_cases h2 : s ≤ 72057594037927935
      · simp only [h1, h2, decide_true, Bool.true_and, Bool.or_eq_false_iff, beq_eq_false_iff_ne, ne_eq] at h
        omega
      · exact .inr (.inl ⟨h1, h2⟩)
    · exact .inl h1
  clear h
  rcases hq with q1 | ⟨q1, q2⟩ | ⟨q1, q2, q3⟩ | ⟨q1, q2, q3, q4⟩
  · go_enter Try.func28, Try.ntmps28
    go_wp2
    go_ret2
    exact ⟨rfl, rfl⟩
  · go_enter Try.func28, Try.ntmps28
    go_wp2
    go_ret2
    exact ⟨rfl, rfl⟩
  · go_enter Try.func28, Try.ntmps28
    go_wp2
    go_ret2
    exact ⟨rfl, rfl⟩
  · go_enter Try.func28, Try.ntmps28
    go_wp2
    go_ret2
    exact ⟨rfl, rfl⟩

set_option maxRecDepth 20000 in
set_option maxHeartbeats 800000 in
theorem refkey_ok (w : World) {v : Value} {u : List Nat} (hr : Rd w v (bv u)) (hu : u.length ≤ 128) (s k : Nat) (hs : s ≤ 72057594037927935) (hk : k ≤ 1) :
    Calls Try.prog 28 #[v, .int .u64 (s : Int), .int .i64 (k : Int)] w fun e w' => ∃ v', e = .returned (.tuple #[v', .int .i64 0]) ∧ w'.ownsRow w.heap.size 5 1 v' (keyL u s k).length (bv (keyL u s k)) ∧ Fr [] w w' := by
  obtain ⟨a, c, hv⟩ := hr.form
  rw [bv_len] at hv
  subst hv
  have HR := hid hr
  obtain ⟨t, ht⟩ : ∃ t, t = 256 * s + k := ⟨_, rfl⟩
  have hkv : (256 * (s : Int) + (k : Int)) = (t : Int) := by omega
  have ht1 : t < 18446744073709551616 := by omega
  have HT := hid ht
  have hul : u.length ≤ 140737488355328 := by omega
  have hul8 : u.length + (fixL t 8).length ≤ 140737488355328 := by rw [fixL_len]; omega
  clear hr ht
  go_enter Try.func28, Try.ntmps28
  go_wp2_with (at_builtin; refine wpList_append_nil rfl _ _ rfl rfl (Fr.refl _ w) _ HR.out rfl hul ?_; intro v1 w1 o1 f1 _; have O1 := hid o1; have F1 := hid f1; clear o1 f1)
  refine (reffixed_c _ t 8 ht1 (by omega)).mono ?_
  rintro e w2 ⟨v2, rfl, o2, f2⟩
  obtain ⟨a2, c2, rfl, _⟩ := ownsRow_slice o2
  have R2 := hid (Rd.ownN (ns := fixL t 8) o2 (fixL_len 8 t).symm)
  have O2 := hid (ownsRow_fr O1.out f2)
  have F2 := hid (F1.out.trans f2)
  clear o2 f2
  go_wp2_with (at_builtin; refine wpList_append_bv rfl _ _ rfl O2.out rfl F2.out (Nat.le_refl _) F2.out.size _ R2.out rfl hul8 ?_; intro v3 w3 o3 f3)
  go_ret2
  refine ⟨v3, rfl, ?_, f3⟩
  unfold keyL
  rw [List.length_append, ← HT.out]
  exact o3
end Go.Proofs.Ytkphfacodacpkaa
