/-
  Keys without the program: unlike parts make unlike keys; numbers stand as their keys do.
-/
import Derived.Test.YtpacijcjcdigmaaRB
namespace Go.Proofs.Ytpacijcjcdigmaa
open Go.ChangeShapes Go.WideShapes Go.ChangeAt Go.RowKit

theorem u8_lt {x y : Nat} (hx : x < 256) (hy : y < 256) : (decide (UInt8.ofNat x < UInt8.ofNat y)) = decide (x < y) := by
  rw [decide_eq_decide, UInt8.lt_iff_toNat_lt, UInt8.toNat_ofNat', UInt8.toNat_ofNat', Nat.mod_eq_of_lt hx, Nat.mod_eq_of_lt hy]
theorem u8_eq {x y : Nat} (hx : x < 256) (hy : y < 256) : (UInt8.ofNat x == UInt8.ofNat y) = decide (x = y) := by
  by_cases h : x = y
  · subst h; simp
  · rw [decide_eq_false h]
    rw [beq_eq_false_iff_ne]
    intro e
    have := congrArg UInt8.toNat e
    rw [UInt8.toNat_ofNat', UInt8.toNat_ofNat', Nat.mod_eq_of_lt hx, Nat.mod_eq_of_lt hy] at this
    exact h this
theorem mod_split (n k : Nat) : n % 256 ^ (k + 1) = n / 256 ^ k % 256 * 256 ^ k + n % 256 ^ k := by
  rw [Nat.pow_succ, Nat.mod_mul, Nat.mul_comm, Nat.add_comm]
theorem less_be : ∀ (k n m : Nat), Op.bytesLess ((be k n).map UInt8.ofNat) ((be k m).map UInt8.ofNat) = decide (n % 256 ^ k < m % 256 ^ k)
  | 0, n, m => by simp [be, Op.bytesLess, Nat.mod_one]
  | k + 1, n, m => by
    have ih := less_be k n m
    simp only [be, List.map_cons, Op.bytesLess, ih]
    have hx : n / 256 ^ k % 256 < 256 := Nat.mod_lt _ (by omega)
    have hy : m / 256 ^ k % 256 < 256 := Nat.mod_lt _ (by omega)
    rw [u8_lt hx hy, u8_eq hx hy, mod_split n k, mod_split m k]
    have h1 : n % 256 ^ k < 256 ^ k := Nat.mod_lt _ (Nat.pow_pos (by omega))
    have h2 : m % 256 ^ k < 256 ^ k := Nat.mod_lt _ (Nat.pow_pos (by omega))
    generalize n / 256 ^ k % 256 = x at *
    generalize m / 256 ^ k % 256 = y at *
    generalize n % 256 ^ k = u at *
    generalize m % 256 ^ k = v at *
    generalize 256 ^ k = B at *
    rcases Nat.lt_trichotomy x y with h | h | h
    · have e : (x + 1) * B ≤ y * B := Nat.mul_le_mul_right _ h
      rw [Nat.add_mul, Nat.one_mul] at e
      rw [decide_eq_true h, Bool.true_or, decide_eq_true (by omega)]
    · subst h
      simp
    · have e : (y + 1) * B ≤ x * B := Nat.mul_le_mul_right _ h
      rw [Nat.add_mul, Nat.one_mul] at e
      rw [decide_eq_false (by omega : ¬ x < y), decide_eq_false (by omega : ¬ x = y), decide_eq_false (by omega : ¬ x * B + u < y * B + v)]
      rfl
theorem be_inj {n m : Nat} (hn : n < 18446744073709551616) (hm : m < 18446744073709551616) (h : be 8 n = be 8 m) : n = m := by
  have h1 := less_be 8 n m
  have h2 := less_be 8 m n
  rw [h] at h1
  rw [← h] at h2
  have h3 := less_be 8 m m
  have h4 := less_be 8 n n
  rw [h3] at h1
  rw [h4] at h2
  simp only [show (256 : Nat) ^ 8 = 18446744073709551616 from rfl, Nat.mod_eq_of_lt hn, Nat.mod_eq_of_lt hm] at h1 h2
  have e1 := decide_eq_decide.1 h1
  have e2 := decide_eq_decide.1 h2
  omega
def keys6 (a b : List Nat) (n : Nat) : List (List Nat) := [110 :: a, 99 :: a, 97 :: a, 111 :: (a ++ b), 114 :: be 8 n, 98 :: be 8 n]
def same6 (a b c d : List Nat) (n m : Nat) : List Bool := [decide (a = c), decide (a = c), decide (a = c), decide (a = c) && decide (b = d), decide (n = m), decide (n = m)]
theorem app_eq {a b c d : List Nat} (h : a.length = c.length) : (a ++ b = c ++ d) ↔ a = c ∧ b = d :=
  ⟨fun e => List.append_inj e h, fun e => by rw [e.1, e.2]⟩
theorem apart6 {a b c d : List Nat} {n m : Nat} (ha : a.length = 32) (hc : c.length = 32) (hn : n < 18446744073709551616) (hm : m < 18446744073709551616) {i j : Nat} {r q : List Nat} {x : Bool} (hi : (keys6 a b n)[i]? = some r) (hj : (keys6 c d m)[j]? = some q) (hx : (same6 a b c d n m)[i]? = some x) :
    decide (r = q) = (decide (i = j) && x) := by
  have be_iff : be 8 n = be 8 m ↔ n = m := ⟨be_inj hn hm, fun e => by rw [e]⟩
  have ae : (a ++ b = c ++ d) ↔ a = c ∧ b = d := app_eq (by omega)
  match i, hi, hx with
  | 0, hi, hx =>
    obtain rfl := Option.some.inj hi; obtain rfl := Option.some.inj hx
    match j, hj with
    | 0, hj | 1, hj | 2, hj | 3, hj | 4, hj | 5, hj => obtain rfl := Option.some.inj hj; simp
    | k + 6, hj => cases hj
  | 1, hi, hx =>
    obtain rfl := Option.some.inj hi; obtain rfl := Option.some.inj hx
    match j, hj with
    | 0, hj | 1, hj | 2, hj | 3, hj | 4, hj | 5, hj => obtain rfl := Option.some.inj hj; simp
    | k + 6, hj => cases hj
  | 2, hi, hx =>
    obtain rfl := Option.some.inj hi; obtain rfl := Option.some.inj hx
    match j, hj with
    | 0, hj | 1, hj | 2, hj | 3, hj | 4, hj | 5, hj => obtain rfl := Option.some.inj hj; simp
    | k + 6, hj => cases hj
  | 3, hi, hx =>
    obtain rfl := Option.some.inj hi; obtain rfl := Option.some.inj hx
    match j, hj with
    | 0, hj | 1, hj | 2, hj | 3, hj | 4, hj | 5, hj => obtain rfl := Option.some.inj hj; simp [ae]
    | k + 6, hj => cases hj
  | 4, hi, hx =>
    obtain rfl := Option.some.inj hi; obtain rfl := Option.some.inj hx
    match j, hj with
    | 0, hj | 1, hj | 2, hj | 3, hj | 4, hj | 5, hj => obtain rfl := Option.some.inj hj; simp [be_iff]
    | k + 6, hj => cases hj
  | 5, hi, hx =>
    obtain rfl := Option.some.inj hi; obtain rfl := Option.some.inj hx
    match j, hj with
    | 0, hj | 1, hj | 2, hj | 3, hj | 4, hj | 5, hj => obtain rfl := Option.some.inj hj; simp [be_iff]
    | k + 6, hj => cases hj
  | k + 6, hi, hx => cases hi
theorem strOf_toList (ns : List Nat) : (strOf ns).toList = ns.map UInt8.ofNat := by
  rw [ByteArray.toList_eq, strOf_data]
theorem root_less {n m : Nat} (hn : n < 18446744073709551616) (hm : m < 18446744073709551616) : Op.bytesLess (strOf (114 :: be 8 n)).toList (strOf (114 :: be 8 m)).toList = decide (n < m) := by
  rw [strOf_toList, strOf_toList]
  simp only [List.map_cons, Op.bytesLess, less_be]
  simp [show (256 : Nat) ^ 8 = 18446744073709551616 from rfl, Nat.mod_eq_of_lt hn, Nat.mod_eq_of_lt hm]
theorem beq_str {r q : List Nat} (hr : By r) (hq : By q) : ((strOf r).toList == (strOf q).toList) = decide (r = q) := by
  by_cases h : r = q
  · subst h; simp
  · rw [decide_eq_false h, beq_eq_false_iff_ne]
    intro e
    apply h
    apply strOf_inj hr hq
    apply ByteArray.ext
    apply Array.toList_inj.1
    rw [ByteArray.toList_eq, ByteArray.toList_eq] at e
    exact e
end Go.Proofs.Ytpacijcjcdigmaa
