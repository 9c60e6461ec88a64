/-
  What an internal key's parts are.
-/
import Derived.Test.YtekcpecofclgiaaU
import Derived.Test.YtekcpecofclgiaaK
namespace Go.Proofs.Ytekcpecofclgiaa
open Go.ChangeShapes Go.WideShapes Go.ChangeAt Go.RowKit

theorem keyL_len (u : List Nat) (s k : Nat) : (keyL u s k).length = u.length + 8 := by unfold keyL; rw [List.length_append, fixL_len]
theorem keyL_by {u : List Nat} (h : By u) (s k : Nat) : By (keyL u s k) := h.append (fixL_by 8 _)
theorem keyL_user (u : List Nat) (s k : Nat) : userL (keyL u s k) = u := by
  unfold userL; rw [keyL_len, Nat.add_sub_cancel]; unfold keyL; exact List.take_left' rfl
theorem keyL_tail (u : List Nat) {s k : Nat} (hs : s ≤ 72057594037927935) (hk : k ≤ 1) : tailN (keyL u s k) = 256 * s + k := by
  unfold tailN; rw [keyL_len, Nat.add_sub_cancel]; unfold keyL
  rw [List.drop_left' rfl, unf_fixL]
  exact Nat.mod_eq_of_lt (show 256 * s + k < 256 ^ 8 by omega)
theorem keyL_is {u : List Nat} (hu : u.length ≤ 128) {s k : Nat} (hs : s ≤ 72057594037927935) (hk : k ≤ 1) : isK (keyL u s k) = true := by
  have ht := keyL_tail u hs hk
  unfold isK
  rw [show unf ((keyL u s k).drop ((keyL u s k).length - 8)) = 256 * s + k from ht, keyL_len]
  simp only [Bool.and_eq_true, decide_eq_true_eq]
  omega

theorem ordP_ne {u v : List Nat} {s t k l x : Int} (hx : x = cmpN u v) (h : ¬ x = 0) : ordP u v s t k l = x := by unfold ordP; rw [← hx, if_neg h]
theorem ordP_s1 {u v : List Nat} {s t k l x : Int} (hx : x = cmpN u v) (h : x = 0) (hs : t < s) : ordP u v s t k l = -1 := by
  unfold ordP; rw [← hx, if_pos h]; unfold cmpI; rw [if_pos hs]; rfl
theorem ordP_s2 {u v : List Nat} {s t k l x : Int} (hx : x = cmpN u v) (h : x = 0) (hs : s < t) : ordP u v s t k l = 1 := by
  unfold ordP; rw [← hx, if_pos h]; unfold cmpI; rw [if_neg (show ¬ t < s by omega), if_pos hs]; rfl
theorem ordP_k {u v : List Nat} {s t k l x : Int} (hx : x = cmpN u v) (h : x = 0) (hs : s = t) : ordP u v s t k l = cmpI l k := by
  unfold ordP; rw [← hx, if_pos h]; subst hs; rw [if_pos (show cmpI s s = 0 by unfold cmpI; simp)]

theorem ordK_key (u v : List Nat) {s t k : Nat} (hs : s ≤ 72057594037927935) (ht : t ≤ 72057594037927935) (hk : k ≤ 1) : ordK (keyL u s k) (keyL v t k) = ordP u v (s : Int) (t : Int) (k : Int) (k : Int) := by
  unfold ordK
  rw [keyL_user, keyL_user, keyL_tail u hs hk, keyL_tail v ht hk, show (256 * s + k) / 256 = s by omega, show (256 * t + k) / 256 = t by omega, show (256 * s + k) % 256 = k by omega, show (256 * t + k) % 256 = k by omega]

theorem less_cmp : ∀ (u v : List Nat), By u → By v → Op.bytesLess (u.map UInt8.ofNat) (v.map UInt8.ofNat) = decide (cmpN u v = -1)
  | [], [], _, _ => rfl
  | [], _ :: _, _, _ => rfl
  | _ :: _, [], _, _ => rfl
  | x :: a, y :: b, ha, hb => by
    have hx := ha x (by simp); have hy := hb y (by simp)
    have ih := less_cmp a b (fun n hn => ha n (List.mem_cons_of_mem _ hn)) (fun n hn => hb n (List.mem_cons_of_mem _ hn))
    have e : (UInt8.ofNat x < UInt8.ofNat y ↔ x < y) := by
      rw [UInt8.lt_iff_toNat_lt, UInt8.toNat_ofNat', UInt8.toNat_ofNat', Nat.mod_eq_of_lt hx, Nat.mod_eq_of_lt hy]
    have e2 : (UInt8.ofNat x = UInt8.ofNat y ↔ x = y) := by
      constructor
      · intro h
        have := congrArg UInt8.toNat h
        rw [UInt8.toNat_ofNat', UInt8.toNat_ofNat', Nat.mod_eq_of_lt hx, Nat.mod_eq_of_lt hy] at this
        exact this
      · intro h; rw [h]
    simp only [List.map_cons, Op.bytesLess, ih]
    rw [show cmpN (x :: a) (y :: b) = if x < y then -1 else if y < x then 1 else cmpN a b from rfl]
    rcases Nat.lt_trichotomy x y with h | h | h
    · rw [if_pos h]; simp [e.2 h]
    · have n1 : ¬ UInt8.ofNat x < UInt8.ofNat y := fun q => by have := e.1 q; omega
      rw [if_neg (by omega), if_neg (by omega), decide_eq_false n1, Bool.false_or, beq_iff_eq.2 (e2.2 h), Bool.true_and]
    · have n1 : ¬ UInt8.ofNat x < UInt8.ofNat y := fun q => by have := e.1 q; omega
      have n2 : ¬ UInt8.ofNat x = UInt8.ofNat y := fun q => by have := e2.1 q; omega
      rw [if_neg (by omega), if_pos h, decide_eq_false n1, Bool.false_or, beq_eq_false_iff_ne.2 n2, Bool.false_and]
      rfl
theorem strOf_toList (u : List Nat) : (strOf u).toList = u.map UInt8.ofNat := by
  rw [← strOf_data, ByteArray.toList_eq]
end Go.Proofs.Ytekcpecofclgiaa
