/-
  Keccak's permutation without the program: a state as a function from places to lanes of 64 bits; a round in one formula; what the program's and the document's ways come to.
-/
import Init
namespace Go.Proofs.YthmjglglbdlieaaDoor

/-- A place laid anew. -/
def up {α : Type} (f : Nat → α) (k : Nat) (v : α) : Nat → α := fun i => if i = k then v else f i
theorem up_same {α : Type} (f : Nat → α) (k : Nat) (v : α) : up f k v k = v := by simp [up]
theorem up_ne {α : Type} (f : Nat → α) {k i : Nat} (v : α) (h : i ≠ k) : up f k v i = f i := by simp [up, h]

/-- The xor of a column. -/
def col (f : Nat → BitVec 64) (x : Nat) : BitVec 64 := f x ^^^ f (x + 5) ^^^ f (x + 10) ^^^ f (x + 15) ^^^ f (x + 20)
def both (f : Nat → BitVec 64) (x : Nat) : BitVec 64 := col f ((x + 4) % 5) ^^^ (col f ((x + 1) % 5)).rotateLeft 1
def theta (f : Nat → BitVec 64) : Nat → BitVec 64 := fun i => f i ^^^ both f (i % 5)
def walkL : List Nat := [10, 7, 11, 17, 18, 3, 5, 16, 8, 21, 24, 4, 15, 23, 19, 13, 12, 2, 20, 14, 22, 9, 6, 1]
def turnL : List Nat := [1, 3, 6, 10, 15, 21, 28, 36, 45, 55, 2, 14, 27, 41, 56, 8, 25, 43, 62, 18, 39, 61, 20, 44]
def constL : List Nat := [1, 32898, 9223372036854808714, 9223372039002292224, 32907, 2147483649, 9223372039002292353, 9223372036854808585, 138, 136, 2147516425, 2147483658, 2147516555, 9223372036854775947, 9223372036854808713, 9223372036854808579, 9223372036854808578, 9223372036854775936, 32778, 9223372039002259466, 9223372039002292353, 9223372036854808704, 2147483649, 9223372039002292232]
/-- Which place's lane comes to a place, and by how much it is turned. -/
def srcL : List Nat := [0, 6, 12, 18, 24, 3, 9, 10, 16, 22, 1, 7, 13, 19, 20, 4, 5, 11, 17, 23, 2, 8, 14, 15, 21]
def rotL : List Nat := [0, 44, 43, 21, 14, 28, 20, 3, 45, 61, 1, 6, 25, 8, 18, 27, 36, 10, 15, 56, 62, 55, 39, 41, 2]
def rho (f : Nat → BitVec 64) : Nat → BitVec 64 := fun i => (f (srcL.getD i 0)).rotateLeft (rotL.getD i 0)
def nx (i k : Nat) : Nat := (i % 5 + k) % 5 + 5 * (i / 5)
def chi (f : Nat → BitVec 64) : Nat → BitVec 64 := fun i => f i ^^^ (~~~ f (nx i 1) &&& f (nx i 2))
def rc (r : Nat) : BitVec 64 := BitVec.ofNat 64 (constL.getD r 0)
/-- A round. -/
def rnd (r : Nat) (f : Nat → BitVec 64) : Nat → BitVec 64 := fun i => if i < 25 then (if i = 0 then chi (rho (theta f)) 0 ^^^ rc r else chi (rho (theta f)) i) else 0
def perm : Nat → (Nat → BitVec 64) → Nat → BitVec 64
  | 0, f => f
  | n + 1, f => rnd n (perm n f)

/-- The lanes carried along the walk, as the program does. -/
def mv : Nat → (Nat → BitVec 64) → (Nat → BitVec 64) × BitVec 64
  | 0, f => (f, f 1)
  | t + 1, f => (up (mv t f).1 (walkL.getD t 0) ((mv t f).2.rotateLeft (turnL.getD t 0)), (mv t f).1 (walkL.getD t 0))
theorem rotl_zero (x : BitVec 64) : x.rotateLeft 0 = x := by
  apply BitVec.eq_of_getLsbD_eq
  intro i hi
  rw [BitVec.getLsbD_rotateLeft]
  simp [hi]
/-- An if whose test is decided by reckoning. -/
theorem mv_rho (f : Nat → BitVec 64) : ∀ i, i < 25 → (mv 24 f).1 i = rho f i := by
  intro i hi
  have h0 : i = 0 ∨ i ≠ 0 := by omega
  rcases h0 with rfl | h0
  · show f 0 = (f 0).rotateLeft 0
    rw [rotl_zero]
  · have : i = 1 ∨ i = 2 ∨ i = 3 ∨ i = 4 ∨ i = 5 ∨ i = 6 ∨ i = 7 ∨ i = 8 ∨ i = 9 ∨ i = 10 ∨ i = 11 ∨ i = 12 ∨ i = 13 ∨ i = 14 ∨ i = 15 ∨ i = 16 ∨ i = 17 ∨ i = 18 ∨ i = 19 ∨ i = 20 ∨ i = 21 ∨ i = 22 ∨ i = 23 ∨ i = 24 := by omega
    rcases this with rfl | rfl | rfl | rfl | rfl | rfl | rfl | rfl | rfl | rfl | rfl | rfl | rfl | rfl | rfl | rfl | rfl | rfl | rfl | rfl | rfl | rfl | rfl | rfl <;> rfl

/-- The document's turns: the places that are gone through, and the table behind t steps. -/
def plX : Nat → Nat × Nat
  | 0 => (1, 0)
  | t + 1 => ((plX t).2, (2 * (plX t).1 + 3 * (plX t).2) % 5)
def tnA : Nat → Nat → Nat
  | 0 => fun _ => 0
  | t + 1 => up (tnA t) ((plX t).1 + 5 * (plX t).2) ((t + 1) * (t + 2) / 2 % 64)
theorem plX_lt (t : Nat) : (plX t).1 < 5 ∧ (plX t).2 < 5 := by
  induction t with
  | zero => decide
  | succ t ih => exact ⟨ih.2, by show (2 * (plX t).1 + 3 * (plX t).2) % 5 < 5; omega⟩
def tnL : List Nat := [0, 1, 62, 28, 27, 36, 44, 6, 55, 20, 3, 10, 43, 25, 39, 41, 45, 15, 21, 8, 18, 2, 61, 56, 14]
theorem tnA_end : ∀ i, i < 25 → tnA 24 i = tnL.getD i 0 := by
  have : ∀ i : Fin 25, tnA 24 i = tnL.getD i 0 := by decide +kernel
  exact fun i hi => this ⟨i, hi⟩

/-- The document's register. -/
def rstep (r : Nat) : Nat := if 128 ≤ r then (2 * r - 256) ^^^ 113 else 2 * r
def reg : Nat → Nat
  | 0 => 1
  | k + 1 => rstep (reg k)
theorem reg_lt (k : Nat) : reg k < 256 := by
  induction k with
  | zero => decide
  | succ k ih =>
    show rstep (reg k) < 256
    unfold rstep
    split
    · exact Nat.xor_lt_two_pow (n := 8) (by omega) (by decide)
    · omega
/-- What a round's first j bits make of its first lane. -/
def rcA (r : Nat) : Nat → BitVec 64
  | 0 => 0
  | j + 1 => if reg (7 * r + j) % 2 = 1 then rcA r j ^^^ (1 : BitVec 64) <<< (2 ^ j - 1) else rcA r j
theorem rcA_end : ∀ r, r < 24 → rcA r 7 = rc r := by
  have : ∀ r : Fin 24, rcA r 7 = rc r := by decide +kernel
  exact fun i hi => this ⟨i, hi⟩

/-- The document's lanes turned and moved, k = 5 x + y places of them. -/
def bsA (f : Nat → BitVec 64) : Nat → Nat → BitVec 64
  | 0 => fun _ => 0
  | k + 1 => up (bsA f k) (k % 5 + 5 * ((2 * (k / 5) + 3 * (k % 5)) % 5)) ((f (k / 5 + 5 * (k % 5)) ^^^ col f ((k / 5 + 4) % 5) ^^^ (col f ((k / 5 + 1) % 5)).rotateLeft 1).rotateLeft (tnL.getD (k / 5 + 5 * (k % 5)) 0))
theorem bsA_end (f : Nat → BitVec 64) : ∀ i, i < 25 → bsA f 25 i = rho (theta f) i := by
  intro i hi
  have : i = 0 ∨ i = 1 ∨ i = 2 ∨ i = 3 ∨ i = 4 ∨ i = 5 ∨ i = 6 ∨ i = 7 ∨ i = 8 ∨ i = 9 ∨ i = 10 ∨ i = 11 ∨ i = 12 ∨ i = 13 ∨ i = 14 ∨ i = 15 ∨ i = 16 ∨ i = 17 ∨ i = 18 ∨ i = 19 ∨ i = 20 ∨ i = 21 ∨ i = 22 ∨ i = 23 ∨ i = 24 := by omega
  have as : ∀ (a b c : BitVec 64) (k : Nat), (a ^^^ b ^^^ c).rotateLeft k = (a ^^^ (b ^^^ c)).rotateLeft k := fun a b c k => by rw [BitVec.xor_assoc]
  rcases this with rfl | rfl | rfl | rfl | rfl | rfl | rfl | rfl | rfl | rfl | rfl | rfl | rfl | rfl | rfl | rfl | rfl | rfl | rfl | rfl | rfl | rfl | rfl | rfl | rfl <;> exact as _ _ _ _

/-- The document's last step of a round, k = 5 x + y places of it. -/
def csA (b a : Nat → BitVec 64) : Nat → Nat → BitVec 64
  | 0 => a
  | k + 1 => up (csA b a k) (k / 5 + 5 * (k % 5)) (b (k / 5 + 5 * (k % 5)) ^^^ (~~~ b ((k / 5 + 1) % 5 + 5 * (k % 5)) &&& b ((k / 5 + 2) % 5 + 5 * (k % 5))))
theorem csA_end (b a : Nat → BitVec 64) : ∀ i, i < 25 → csA b a 25 i = chi b i := by
  intro i hi
  have : i = 0 ∨ i = 1 ∨ i = 2 ∨ i = 3 ∨ i = 4 ∨ i = 5 ∨ i = 6 ∨ i = 7 ∨ i = 8 ∨ i = 9 ∨ i = 10 ∨ i = 11 ∨ i = 12 ∨ i = 13 ∨ i = 14 ∨ i = 15 ∨ i = 16 ∨ i = 17 ∨ i = 18 ∨ i = 19 ∨ i = 20 ∨ i = 21 ∨ i = 22 ∨ i = 23 ∨ i = 24 := by omega
  rcases this with rfl | rfl | rfl | rfl | rfl | rfl | rfl | rfl | rfl | rfl | rfl | rfl | rfl | rfl | rfl | rfl | rfl | rfl | rfl | rfl | rfl | rfl | rfl | rfl | rfl <;> rfl
theorem chi_congr {f g : Nat → BitVec 64} (h : ∀ i, i < 25 → f i = g i) : ∀ i, i < 25 → chi f i = chi g i := by
  intro i hi
  unfold chi nx
  rw [h i hi, h _ (by omega), h _ (by omega)]
theorem rho_congr {f g : Nat → BitVec 64} (h : ∀ i, i < 25 → f i = g i) : ∀ i, i < 25 → rho f i = rho g i := by
  intro i hi
  have : srcL.getD i 0 < 25 := by
    have : ∀ i : Fin 25, srcL.getD i 0 < 25 := by decide +kernel
    exact this ⟨i, hi⟩
  unfold rho
  rw [h _ this]
theorem rnd_of {r : Nat} {f g : Nat → BitVec 64} (h : ∀ i, i < 25 → g i = chi (rho (theta f)) i) : ∀ i, i < 25 → up g 0 (g 0 ^^^ rc r) i = rnd r f i := by
  intro i hi
  unfold rnd up
  rw [if_pos hi]
  split
  · rw [h 0 (by omega)]
  · exact h i hi
end Go.Proofs.YthmjglglbdlieaaDoor
