/-
  Keccak's permutation without the program: a state as a function from places to lanes of 64 bits; a round in one formula; what the program's and the document's ways come to.
-/
import Init
import Derived.Test.YtmpfnglcmaollaaDoorTrE
import Derived.Test.YtmpfnglcmaollaaDoorJ04
namespace Go.Proofs.YtmpfnglcmaollaaDoor

/-- A place laid anew. -/
def up {α : Type} (f : Nat → α) (k : Nat) (v : α) : Nat → α := fun i => if i = k then v else f i
theorem up_same {α : Type} (f : Nat → α) (k : Nat) (v : α) : up f k v k = v := by simp [up]
theorem up_ne {α : Type} (f : Nat → α) {k i : Nat} (v : α) (h : i ≠ k) : up f k v i = f i := by simp [up, h]

/-- The xor of a column. -/
def col (f : Nat → BitVec 64) (x : Nat) : BitVec 64 := f x ^^^ f (x + 5) ^^^ f (x + 10) ^^^ f (x + 15) ^^^ f (x + 20)
def both (f : Nat → BitVec 64) (x : Nat) : BitVec 64 := col f ((x + 4) % 5) ^^^ (col f ((x + 1) % 5)).rotateLeft 1
def theta (f : Nat → BitVec 64) : Nat → BitVec 64 := fun i => f i ^^^ both f (i % 5)
def walkL : List Nat := [10, 7, 11, 17, 18, 3, 5, 16, 8, 21, 24, 4, 15, 23, 19, 13, 12, 2, 20, 14, 22, 9, 6, 1]
def turnL : List Nat := [1, 3, 6, 10, 15, 21, 28, 36, 45, 55, 2, 14, 27, 41, 56, 8, 25, 43, 62, 18, 39, 61, 20, 44]
def constL : List Nat := [1, 32898, 9223372036854808714, 9223372039002292224, 32907, 2147483649, 9223372039002292353, 9223372036854808585, 138, 136, 2147516425, 2147483658, 2147516555, 9223372036854775947, 9223372036854808713, 9223372036854808579, 9223372036854808578, 9223372036854775936, 32778, 9223372039002259466, 9223372039002292353, 9223372036854808704, 2147483649, 9223372039002292232]
/-- Which place's lane comes to a place, and by how much it is turned. -/
def srcL : List Nat := [0, 6, 12, 18, 24, 3, 9, 10, 16, 22, 1, 7, 13, 19, 20, 4, 5, 11, 17, 23, 2, 8, 14, 15, 21]
def rotL : List Nat := [0, 44, 43, 21, 14, 28, 20, 3, 45, 61, 1, 6, 25, 8, 18, 27, 36, 10, 15, 56, 62, 55, 39, 41, 2]
def rho (f : Nat → BitVec 64) : Nat → BitVec 64 := fun i => (f (srcL.getD i 0)).rotateLeft (rotL.getD i 0)
def nx (i k : Nat) : Nat := (i % 5 + k) % 5 + 5 * (i / 5)
def chi (f : Nat → BitVec 64) : Nat → BitVec 64 := fun i => f i ^^^ (~~~ f (nx i 1) &&& f (nx i 2))
def rc (r : Nat) : BitVec 64 := BitVec.ofNat 64 (constL.getD r 0)
/-- A round. -/
def rnd (r : Nat) (f : Nat → BitVec 64) : Nat → BitVec 64 := fun i => if i < 25 then (if i = 0 then chi (rho (theta f)) 0 ^^^ rc r else chi (rho (theta f)) i) else 0
def perm : Nat → (Nat → BitVec 64) → Nat → BitVec 64
  | 0, f => f
  | n + 1, f => rnd n (perm n f)

/-- The lanes carried along the walk, as the program does. -/
def mv : Nat → (Nat → BitVec 64) → (Nat → BitVec 64) × BitVec 64
  | 0, f => (f, f 1)
  | t + 1, f => (up (mv t f).1 (walkL.getD t 0) ((mv t f).2.rotateLeft (turnL.getD t 0)), (mv t f).1 (walkL.getD t 0))
theorem rotl_zero (x : BitVec 64) : x.rotateLeft 0 = x := by
  apply BitVec.eq_of_getLsbD_eq
  intro i hi
  rw [BitVec.getLsbD_rotateLeft]
  simp [hi]
/-- An if whose test is decided by reckoning. -/
theorem mv_rho (f : Nat → BitVec 64) : ∀ i, i < 25 → (mv 24 f).1 i = rho f i := by
  intro i hi
  have h0 : i = 0 ∨ i ≠ 0 := by omega
  rcases h0 with rfl | h0
  · show f 0 = (f 0).rotateLeft 0
    rw [rotl_zero]
  · have : i = 1 ∨ i = 2 ∨ i = 3 ∨ i = 4 ∨ i = 5 ∨ i = 6 ∨ i = 7 ∨ i = 8 ∨ i = 9 ∨ i = 10 ∨ i = 11 ∨ i = 12 ∨ i = 13 ∨ i = 14 ∨ i = 15 ∨ i = 16 ∨ i = 17 ∨ i = 18 ∨ i = 19 ∨ i = 20 ∨ i = 21 ∨ i = 22 ∨ i = 23 ∨ i = 24 := by omega
    rcases this with rfl | rfl | rfl | rfl | rfl | rfl | rfl | rfl | rfl | rfl | rfl | rfl | rfl | rfl | rfl | rfl | rfl | rfl | rfl | rfl | rfl | rfl | rfl | rfl <;> rfl

/-- The document's turns: the places that are gone through, and the table behind t steps. -/
def plX : Nat → Nat × Nat
  | 0 => (1, 0)
  | t + 1 => ((plX t).2, (2 * (plX t).1 + 3 * (plX t).2) % 5)
def tnA : Nat → Nat → Nat
  | 0 => fun _ => 0
  | t + 1 => up (tnA t) ((plX t).1 + 5 * (plX t).2) ((t + 1) * (t + 2) / 2 % 64)
theorem plX_lt (t : Nat) : (plX t).1 < 5 ∧ (plX t).2 < 5 := by
  induction t with
  | zero => decide
  | succ t ih => exact ⟨ih.2, by show (2 * (plX t).1 + 3 * (plX t).2) % 5 < 5; omega⟩
def tnL : List Nat := [0, 1, 62, 28, 27, 36, 44, 6, 55, 20, 3, 10, 43, 25, 39, 41, 45, 15, 21, 8, 18, 2, 61, 56, 14]
theorem tnA_end : ∀ i, i < 25 → tnA 24 i = tnL.getD i 0 := by
  have : ∀ i : Fin 25, tnA 24 i = tnL.getD i 0 := by decide +kernel
  exact fun i hi => this ⟨i, hi⟩

/-- The document's register. -/
def rstep (r : Nat) : Nat := if 128 ≤ r then (2 * r - 256) ^^^ 113 else 2 * r
def reg : Nat → Nat
  | 0 => 1
  | k + 1 => rstep (reg k)
theorem reg_lt (k : Nat) : reg k < 256 := by
  induction k with
  | zero => decide
  | succ k ih =>
    show rstep (reg k) < 256
    unfold rstep
    split
    · exact Nat.xor_lt_two_pow (n := 8) (by omega) (by decide)
    · omega
/-- What a round's first j bits make of its first lane. -/
def rcA (r : Nat) : Nat → BitVec 64
  | 0 => 0
  | j + 1 => if reg (7 * r + j) % 2 = 1 then rcA r j ^^^ (1 : BitVec 64) <<< (2 ^ j - 1) else rcA r j
theorem rcA_end : ∀ r, r < 24 → rcA r 7 = rc r := by
  have : ∀ r : Fin 24, rcA r 7 = rc r := by decide +kernel
  exact fun i hi => this ⟨i, hi⟩

/-- The document's lanes turned and moved, k = 5 x + y places of them. -/
def bsA (f : Nat → BitVec 64) : Nat → Nat → BitVec 64
  | 0 => fun _ => 0
  | k + 1 => up (bsA f k) (k % 5 + 5 * ((2 * (k / 5) + 3 * (k % 5)) % 5)) ((f (k / 5 + 5 * (k % 5)) ^^^ col f ((k / 5 + 4) % 5) ^^^ (col f ((k / 5 + 1) % 5)).rotateLeft 1).rotateLeft (tnL.getD (k / 5 + 5 * (k % 5)) 0))
theorem bsA_end (f : Nat → BitVec 64) : ∀ i, i < 25 → bsA f 25 i = rho (theta f) i := by
  intro i hi
  have : i = 0 ∨ i = 1 ∨ i = 2 ∨ i = 3 ∨ i = 4 ∨ i = 5 ∨ i = 6 ∨ i = 7 ∨ i = 8 ∨ i = 9 ∨ i = 10 ∨ i = 11 ∨ i = 12 ∨ i = 13 ∨ i = 14 ∨ i = 15 ∨ i = 16 ∨ i = 17 ∨ i = 18 ∨ i = 19 ∨ i = 20 ∨ i = 21 ∨ i = 22 ∨ i = 23 ∨ i = 24 := by omega
  have asx : ∀ (a b c : BitVec 64) (k : Nat), (a ^^^ b ^^^ c).rotateLeft k = (a ^^^ (b ^^^ c)).rotateLeft k := fun a b c k => by rw [BitVec.xor_assoc]
  rcases this with rfl | rfl | rfl | rfl | rfl | rfl | rfl | rfl | rfl | rfl | rfl | rfl | rfl | rfl | rfl | rfl | rfl | rfl | rfl | rfl | rfl | rfl | rfl | rfl | rfl <;> exact asx _ _ _ _

/-- The document's last step of a round, k = 5 x + y places of it. -/
def csA (b a : Nat → BitVec 64) : Nat → Nat → BitVec 64
  | 0 => a
  | k + 1 => up (csA b a k) (k / 5 + 5 * (k % 5)) (b (k / 5 + 5 * (k % 5)) ^^^ (~~~ b ((k / 5 + 1) % 5 + 5 * (k % 5)) &&& b ((k / 5 + 2) % 5 + 5 * (k % 5))))
theorem csA_end (b a : Nat → BitVec 64) : ∀ i, i < 25 → csA b a 25 i = chi b i := by
  intro i hi
  have : i = 0 ∨ i = 1 ∨ i = 2 ∨ i = 3 ∨ i = 4 ∨ i = 5 ∨ i = 6 ∨ i = 7 ∨ i = 8 ∨ i = 9 ∨ i = 10 ∨ i = 11 ∨ i = 12 ∨ i = 13 ∨ i = 14 ∨ i = 15 ∨ i = 16 ∨ i = 17 ∨ i = 18 ∨ i = 19 ∨ i = 20 ∨ i = 21 ∨ i = 22 ∨ i = 23 ∨ i = 24 := by omega
  rcases this with rfl | rfl | rfl | rfl | rfl | rfl | rfl | rfl | rfl | rfl | rfl | rfl | rfl | rfl | rfl | rfl | rfl | rfl | rfl | rfl | rfl | rfl | rfl | rfl | rfl <;> rfl
theorem chi_congr {f g : Nat → BitVec 64} (h : ∀ i, i < 25 → f i = g i) : ∀ i, i < 25 → chi f i = chi g i := by
  intro i hi
  unfold chi nx
  rw [h i hi, h _ (by omega), h _ (by omega)]
theorem rho_congr {f g : Nat → BitVec 64} (h : ∀ i, i < 25 → f i = g i) : ∀ i, i < 25 → rho f i = rho g i := by
  intro i hi
  have : srcL.getD i 0 < 25 := by
    have : ∀ i : Fin 25, srcL.getD i 0 < 25 := by decide +kernel
    exact this ⟨i, hi⟩
  unfold rho
  rw [h _ this]
theorem rnd_of {r : Nat} {f g : Nat → BitVec 64} (h : ∀ i, i < 25 → g i = chi (rho (theta f)) i) : ∀ i, i < 25 → up g 0 (g 0 ^^^ rc r) i = rnd r f i := by
  intro i hi
  unfold rnd up
  rw [if_pos hi]
  split
  · rw [h 0 (by omega)]
  · exact h i hi
end Go.Proofs.YtmpfnglcmaollaaDoor
namespace Go.Proofs.YtmpfnglcmaollaaDoor

/-- The lane that k bytes from place o on make. -/
def laneO (g : Nat → BitVec 8) (o : Nat) : Nat → BitVec 64
  | 0 => 0
  | k + 1 => laneO g o k ||| (g (o + k)).setWidth 64 <<< (8 * k)
def absorb (f : Nat → BitVec 64) (g : Nat → BitVec 8) : Nat → BitVec 64 := fun i => if i < 17 then f i ^^^ laneO g (8 * i) 8 else f i
def ab (f : Nat → BitVec 64) (g : Nat → BitVec 8) : Nat → BitVec 64 := perm 24 (absorb f g)
/-- A sponge: its lanes, its block, how much of it is filled. -/
structure Sp where
  f : Nat → BitVec 64
  g : Nat → BitVec 8
  n : Nat
def sp0 : Sp := ⟨fun _ => 0, fun _ => 0, 0⟩
def push (s : Sp) (x : Nat) : Sp := if s.n + 1 = 136 then ⟨ab s.f (up s.g s.n (BitVec.ofNat 8 x)), fun _ => 0, 0⟩ else ⟨s.f, up s.g s.n (BitVec.ofNat 8 x), s.n + 1⟩
def pushes (s : Sp) (xs : List Nat) : Sp := xs.foldl push s
theorem pushes_append (s : Sp) (a b : List Nat) : pushes s (a ++ b) = pushes (pushes s a) b := List.foldl_append
theorem pushes_nil (s : Sp) : pushes s [] = s := rfl
/-- The block with bytes laid in from place n on. -/
def lay (g : Nat → BitVec 8) (n : Nat) (xs : List Nat) : Nat → BitVec 8 := fun j => if n ≤ j ∧ j < n + xs.length then BitVec.ofNat 8 (xs.getD (j - n) 0) else g j
theorem lay_nil (g : Nat → BitVec 8) (n : Nat) : lay g n [] = g := by
  funext j; unfold lay; rw [if_neg (by simp)]
theorem lay_cons (g : Nat → BitVec 8) (n x : Nat) (xs : List Nat) : lay (up g n (BitVec.ofNat 8 x)) (n + 1) xs = lay g n (x :: xs) := by
  funext j
  unfold lay up
  simp only [List.length_cons]
  by_cases h1 : n + 1 ≤ j ∧ j < n + 1 + xs.length
  · rw [if_pos h1, if_pos (by omega), show j - n = (j - (n + 1)) + 1 by omega, List.getD_cons_succ]
  · rw [if_neg h1]
    by_cases h2 : j = n
    · rw [if_pos h2, if_pos (by omega), h2, Nat.sub_self, List.getD_cons_zero]
    · rw [if_neg h2, if_neg (by omega)]
theorem pushes_few : ∀ (xs : List Nat) (s : Sp), s.n + xs.length < 136 → pushes s xs = ⟨s.f, lay s.g s.n xs, s.n + xs.length⟩
  | [], s, _ => by rw [lay_nil]; rfl
  | x :: xs, s, h => by
    simp only [List.length_cons] at h
    have e : push s x = ⟨s.f, up s.g s.n (BitVec.ofNat 8 x), s.n + 1⟩ := by unfold push; rw [if_neg (by omega)]
    show pushes (push s x) xs = _
    rw [e, pushes_few xs _ (by simp only; omega)]
    simp only [lay_cons, List.length_cons]
    congr 1; omega
theorem pushes_full : ∀ (xs : List Nat) (s : Sp), 0 < xs.length → s.n + xs.length = 136 → pushes s xs = ⟨ab s.f (lay s.g s.n xs), fun _ => 0, 0⟩
  | [], _, h, _ => by simp at h
  | [x], s, _, h => by
    simp only [List.length_cons, List.length_nil] at h
    show push s x = _
    unfold push
    rw [if_pos (by omega), ← lay_cons, lay_nil]
  | x :: y :: xs, s, _, h => by
    simp only [List.length_cons] at h
    have e : push s x = ⟨s.f, up s.g s.n (BitVec.ofNat 8 x), s.n + 1⟩ := by unfold push; rw [if_neg (by omega)]
    show pushes (push s x) (y :: xs) = _
    rw [e, pushes_full (y :: xs) _ (by simp) (by simp only [List.length_cons]; omega)]
    simp only [lay_cons]
theorem pushes_n (xs : List Nat) : ∀ (s : Sp), s.n < 136 → (pushes s xs).n < 136 := by
  induction xs with
  | nil => intro s h; exact h
  | cons x xs ih =>
    intro s h
    refine ih _ ?_
    unfold push
    split
    · exact Nat.zero_lt_succ _
    · simp only; omega
/-- The last block filled up. -/
def pad (g : Nat → BitVec 8) (n : Nat) : Nat → BitVec 8 := up (up g n 1) 135 (up g n 1 135 ||| 128)
def fin (s : Sp) : Nat → BitVec 64 := ab s.f (pad s.g s.n)
/-- The hash's bytes. -/
def hb (f : Nat → BitVec 64) (i : Nat) : Nat := (f (i / 8)).toNat / 2 ^ (8 * (i % 8)) % 256
def hashOf (ns : List Nat) : Nat → Nat := hb (fin (pushes sp0 ns))

theorem laneO_bit (g : Nat → BitVec 8) (o : Nat) : ∀ k j, 8 * k ≤ j → (laneO g o k).getLsbD j = false
  | 0, _, _ => by simp [laneO]
  | k + 1, j, h => by
    unfold laneO
    rw [BitVec.getLsbD_or, laneO_bit g o k j (by omega), BitVec.getLsbD_shiftLeft]
    have : ((g (o + k)).setWidth 64).getLsbD (j - 8 * k) = false := by
      rw [BitVec.getLsbD_setWidth, BitVec.getLsbD_of_ge _ _ (by omega)]; simp
    rw [this]; simp
theorem laneO_xor (g : Nat → BitVec 8) (o k : Nat) : laneO g o (k + 1) = laneO g o k ^^^ (g (o + k)).setWidth 64 <<< (8 * k) := by
  show laneO g o k ||| (g (o + k)).setWidth 64 <<< (8 * k) = _
  apply BitVec.eq_of_getLsbD_eq
  intro j hj
  rw [BitVec.getLsbD_or, BitVec.getLsbD_xor]
  by_cases h : 8 * k ≤ j
  · rw [laneO_bit g o k j h]; simp
  · rw [BitVec.getLsbD_shiftLeft]
    simp [show j < 8 * k by omega]
/-- The document's way: byte by byte. -/
def xb (f : Nat → BitVec 64) (g : Nat → BitVec 8) : Nat → Nat → BitVec 64
  | 0 => f
  | k + 1 => up (xb f g k) (k / 8) (xb f g k (k / 8) ^^^ (g k).setWidth 64 <<< (8 * (k % 8)))
theorem xb_at (f : Nat → BitVec 64) (g : Nat → BitVec 8) : ∀ k i, xb f g k i = f i ^^^ laneO g (8 * i) (min 8 (k - 8 * i))
  | 0, i => by show f i = _; simp [laneO]
  | k + 1, i => by
    unfold xb up
    by_cases h : i = k / 8
    · rw [if_pos h, xb_at f g k (k / 8), ← h]
      have e1 : min 8 (k - 8 * i) = k % 8 := by omega
      have e2 : min 8 (k + 1 - 8 * i) = k % 8 + 1 := by omega
      rw [e1, e2, laneO_xor, BitVec.xor_assoc, show 8 * i + k % 8 = k by omega]
    · rw [if_neg h, xb_at f g k i]
      congr 2; omega
theorem xb_end (f : Nat → BitVec 64) (g : Nat → BitVec 8) : ∀ i, i < 25 → xb f g 136 i = absorb f g i := by
  intro i hi
  rw [xb_at]
  unfold absorb
  split
  · rw [show min 8 (136 - 8 * i) = 8 by omega]
  · rw [show min 8 (136 - 8 * i) = 0 by omega]; simp [laneO]
/-- What the document lays into the block that begins at place 136 q of a message. -/
def mb (ns : List Nat) (q i : Nat) : BitVec 8 :=
  if 136 * q + i < ns.length then BitVec.ofNat 8 (ns.getD (136 * q + i) 0)
  else if i = 135 then (if 136 * q + i = ns.length then 1 else 0) ||| 128 else if 136 * q + i = ns.length then 1 else 0
theorem mb_full {ns : List Nat} {q : Nat} (h : 136 * q + 136 ≤ ns.length) : ∀ i, i < 136 → mb ns q i = lay (fun _ => 0) 0 ((ns.drop (136 * q)).take 136) i := by
  intro i hi
  unfold mb lay
  rw [if_pos (by omega), if_pos (by rw [List.length_take, List.length_drop]; omega)]
  congr 1
  rw [Nat.sub_zero]
  simp only [List.getD_eq_getElem?_getD, List.getElem?_take, List.getElem?_drop, hi, if_true]
theorem mb_last {ns : List Nat} {q : Nat} (h1 : 136 * q ≤ ns.length) (h : ns.length < 136 * q + 136) : ∀ i, i < 136 → mb ns q i = pad (lay (fun _ => 0) 0 (ns.drop (136 * q))) (ns.length - 136 * q) i := by
  intro i hi
  have hl : (ns.drop (136 * q)).length = ns.length - 136 * q := List.length_drop
  have hg : ∀ j, (ns.drop (136 * q)).getD j 0 = ns.getD (136 * q + j) 0 := fun j => by simp only [List.getD_eq_getElem?_getD, List.getElem?_drop]
  unfold mb pad up lay
  rw [hl]
  simp only [Nat.sub_zero, hg]
  by_cases h5 : i = 135
  · subst h5
    simp only [if_true]
    by_cases h6 : 136 * q + 135 = ns.length
    · rw [if_neg (by omega), if_pos h6, if_pos (by omega)]
    · rw [if_neg (by omega), if_neg h6, if_neg (by omega), if_neg (by omega)]
  · simp only [if_neg h5]
    by_cases h7 : 136 * q + i < ns.length
    · rw [if_pos h7, if_neg (by omega), if_pos (by omega)]
    · rw [if_neg h7]
      by_cases h8 : 136 * q + i = ns.length
      · rw [if_pos h8, if_pos (by omega)]
      · rw [if_neg h8, if_neg (by omega), if_neg (by omega)]
theorem laneO_congr {g g' : Nat → BitVec 8} {o : Nat} : ∀ k, (∀ i, i < k → g (o + i) = g' (o + i)) → laneO g o k = laneO g' o k
  | 0, _ => rfl
  | k + 1, h => by unfold laneO; rw [laneO_congr k (fun i hi => h i (by omega)), h k (by omega)]
theorem absorb_congr {f : Nat → BitVec 64} {g g' : Nat → BitVec 8} (h : ∀ i, i < 136 → g i = g' i) : absorb f g = absorb f g' := by
  funext i
  unfold absorb
  split
  · rw [laneO_congr 8 (fun j hj => h _ (by omega))]
  · rfl
theorem ab_congr {f : Nat → BitVec 64} {g g' : Nat → BitVec 8} (h : ∀ i, i < 136 → g i = g' i) : ab f g = ab f g' := by unfold ab; rw [absorb_congr h]
/-- The lanes behind the first q blocks. -/
def blocks (ns : List Nat) : Nat → Nat → BitVec 64
  | 0 => fun _ => 0
  | q + 1 => ab (blocks ns q) (mb ns q)
theorem blocks_push {ns : List Nat} : ∀ q, 136 * q ≤ ns.length → pushes sp0 (ns.take (136 * q)) = ⟨blocks ns q, fun _ => 0, 0⟩
  | 0, _ => rfl
  | q + 1, h => by
    have e : ns.take (136 * (q + 1)) = ns.take (136 * q) ++ (ns.drop (136 * q)).take 136 := by
      rw [show 136 * (q + 1) = 136 * q + 136 by omega, List.take_add]
    have hl : ((ns.drop (136 * q)).take 136).length = 136 := by rw [List.length_take, List.length_drop]; omega
    rw [e, pushes_append, blocks_push q (by omega), pushes_full _ _ (by omega) (by simp only; omega)]
    show Sp.mk (ab (blocks ns q) (lay (fun _ => 0) 0 _)) _ _ = Sp.mk (ab (blocks ns q) (mb ns q)) _ _
    rw [ab_congr (mb_full (ns := ns) (q := q) (by omega))]
theorem blocks_end {ns : List Nat} {q : Nat} (h1 : 136 * q ≤ ns.length) (h : ns.length < 136 * q + 136) : hb (blocks ns (q + 1)) = hashOf ns := by
  have hl : (ns.drop (136 * q)).length = ns.length - 136 * q := List.length_drop
  have e : pushes sp0 ns = ⟨blocks ns q, lay (fun _ => 0) 0 (ns.drop (136 * q)), ns.length - 136 * q⟩ := by
    have h2 : ns = ns.take (136 * q) ++ ns.drop (136 * q) := (List.take_append_drop _ _).symm
    have h3 : pushes sp0 ns = pushes (pushes sp0 (ns.take (136 * q))) (ns.drop (136 * q)) := by rw [← pushes_append, ← h2]
    rw [h3, blocks_push q h1, pushes_few _ _ (by simp only [hl]; omega)]
    simp only [hl, Nat.zero_add]
  unfold hashOf fin
  rw [e]
  show hb (ab (blocks ns q) (mb ns q)) = _
  rw [ab_congr (mb_last h1 h)]
end Go.Proofs.YtmpfnglcmaollaaDoor
namespace Go.Proofs.YtmpfnglcmaollaaDoor
open Go.ChangeShapes Go.WideShapes Go.ChangeAt Go.RowKit

/-- A node of a trie. -/
inductive Nd where
  | nil : Nd
  | far (h : List Nat) : Nd
  | leaf (p v : List Nat) : Nd
  | stem (p : List Nat) (t : Nd) : Nd
  | fork (c : Nat → Nd) (v : List Nat) : Nd
/-- A message's hash. -/
def hshF (x : List Nat) : List Nat := (List.range 32).map (hashOf x)
theorem hshF_len (x : List Nat) : (hshF x).length = 32 := by unfold hshF; simp
theorem hshF_by (x : List Nat) : By (hshF x) := fun y hy => by
  obtain ⟨i, _, rfl⟩ := List.mem_map.1 hy
  unfold hashOf hb
  omega
/-- A list's bytes. -/
def lstF (x : List Nat) : List Nat := headL 192 x.length ++ x
/-- How an item's bytes are referred to. -/
def shtF (x : List Nat) : List Nat := if x.length < 32 then x else strL (hshF x)
def refE : Nd → List Nat
  | .nil => strL []
  | .far h => strL h
  | .leaf p v => shtF (lstF (strL (packF p true) ++ strL v))
  | .stem p t => shtF (lstF (strL (packF p false) ++ refE t))
  | .fork c v => shtF (lstF ((List.range 16).flatMap (fun i => refE (c i)) ++ strL v))
/-- A node's own bytes. -/
def encN : Nd → List Nat
  | .nil => strL []
  | .far h => strL h
  | .leaf p v => lstF (strL (packF p true) ++ strL v)
  | .stem p t => lstF (strL (packF p false) ++ refE t)
  | .fork c v => lstF ((List.range 16).flatMap (fun i => refE (c i)) ++ strL v)
/-- An item's height is so much at most. -/
def hgt : (n : Nat) → Tr n → Nat → Prop
  | 0, _, _ => False
  | _ + 1, _, 0 => False
  | n + 1, t, k + 1 => ∀ c ∈ tK t, hgt n c k
/-- Lists have no bytes, strings no items. -/
def okT : (n : Nat) → Tr n → Prop
  | 0, _ => True
  | n + 1, t => ((tL t = true ∧ tB t = []) ∨ (tL t = false ∧ tK t = [])) ∧ ∀ c ∈ tK t, okT n c
theorem bad_ok : ∀ (n : Nat) (t : Tr n) (k e : Nat), okT n t → hgt n t k → e + k ≤ 17 → bad n e t = 0
  | 0, _, _, _, _, h, _ => h.elim
  | _ + 1, _, 0, _, _, h, _ => h.elim
  | n + 1, t, k + 1, e, h1, h2, h3 => by
    unfold bad
    rw [if_neg (by omega), if_neg (by
      rintro (⟨a, b⟩ | ⟨a, b⟩)
      · rcases h1.1 with ⟨_, c⟩ | ⟨c, _⟩
        · exact b c
        · rw [c] at a; cases a
      · rcases h1.1 with ⟨c, _⟩ | ⟨_, c⟩
        · rw [c] at a; cases a
        · exact b c)]
    exact firstBad_zero.2 fun c hc => bad_ok n c k (e + 1) (h1.2 c hc) (h2 c hc) (by omega)
/-- The deepest level is left out. -/
def low : (n : Nat) → Tr (n + 1) → Tr n
  | 0, _ => ()
  | n + 1, t => mkT (tL t) (tB t) ((tK t).map (low n))
theorem low_hgt : ∀ (n : Nat) (t : Tr (n + 1)) (k : Nat), hgt (n + 1) t k → k ≤ n → hgt n (low n t) k
  | 0, _, 0, h, _ => h.elim
  | 0, _, k + 1, _, h => by omega
  | _ + 1, _, 0, h, _ => h.elim
  | n + 1, t, k + 1, h, hk => fun c hc => by
    obtain ⟨c', h1, rfl⟩ := List.mem_map.1 hc
    exact low_hgt n c' k (h c' h1) (by omega)
theorem low_ok : ∀ (n : Nat) (t : Tr (n + 1)), okT (n + 1) t → okT n (low n t)
  | 0, _, _ => trivial
  | n + 1, t, h => ⟨by
      rcases h.1 with ⟨a, b⟩ | ⟨a, b⟩
      · exact .inl ⟨a, b⟩
      · exact .inr ⟨a, by show (tK t).map (low n) = []; rw [b]; rfl⟩, fun c hc => by
    obtain ⟨c', h1, rfl⟩ := List.mem_map.1 hc
    exact low_ok n c' (h.2 c' h1)⟩
theorem low_by : ∀ (n : Nat) (t : Tr (n + 1)), byT (n + 1) t → byT n (low n t)
  | 0, _, _ => trivial
  | n + 1, t, h => ⟨h.1, fun c hc => by
    obtain ⟨c', h1, rfl⟩ := List.mem_map.1 hc
    exact low_by n c' (h.2 c' h1)⟩
theorem low_enc : ∀ (n : Nat) (t : Tr (n + 1)) (k : Nat), hgt (n + 1) t k → k ≤ n → enc n (low n t) = enc (n + 1) t
  | 0, _, 0, h, _ => h.elim
  | 0, _, k + 1, _, h => by omega
  | _ + 1, _, 0, h, _ => h.elim
  | n + 1, t, k + 1, h, hk => by
    have e : ((tK t).map (low n)).flatMap (enc n) = (tK t).flatMap (enc (n + 1)) := by
      rw [List.flatMap_map]
      have : ∀ (l : List (Tr (n + 1))), (∀ c ∈ l, hgt (n + 1) c k) → l.flatMap (fun c => enc n (low n c)) = l.flatMap (enc (n + 1)) := by
        intro l
        induction l with
        | nil => intro _; rfl
        | cons c l ih =>
          intro hl
          simp only [List.flatMap_cons]
          rw [low_enc n c k (hl c (by simp)) (by omega), ih (fun d hd => hl d (by simp [hd]))]
      exact this (tK t) h
    show (if tL t = true then headL 192 (((tK t).map (low n)).flatMap (enc n)).length ++ ((tK t).map (low n)).flatMap (enc n) else strL (tB t)) = if tL t = true then headL 192 ((tK t).flatMap (enc (n + 1))).length ++ (tK t).flatMap (enc (n + 1)) else strL (tB t)
    rw [e]
theorem low_cnt : ∀ (n : Nat) (t : Tr (n + 1)), cnt n (low n t) ≤ cnt (n + 1) t
  | 0, _ => Nat.zero_le _
  | n + 1, t => by
    show 1 + (((tK t).map (low n)).map (cnt n)).sum ≤ 1 + ((tK t).map (cnt (n + 1))).sum
    have : ∀ (l : List (Tr (n + 1))), ((l.map (low n)).map (cnt n)).sum ≤ (l.map (cnt (n + 1))).sum := by
      intro l
      induction l with
      | nil => exact Nat.le_refl _
      | cons c l ih =>
        simp only [List.map_cons, List.sum_cons]
        have := low_cnt n c
        omega
    have := this (tK t)
    omega
theorem IsV.low : ∀ {n : Nat} {w : World} {v : Value} {t : Tr (n + 1)}, IsV w (n + 1) v t → IsV w n v (low n t)
  | 0, w, v, t, h => h.agg
  | n + 1, w, v, t, h => by
    obtain ⟨bs, ka, kc, h1, h2, h3, h4, h5, h6, h7⟩ := h
    refine ⟨bs, ka, kc, by show v = .agg #[.bool (tL t), bs, .slice ka ((tK t).map (Go.Proofs.YtmpfnglcmaollaaDoor.low n)).length kc]; rw [List.length_map]; exact h1, h2, h3, h4, by show ((tK t).map (Go.Proofs.YtmpfnglcmaollaaDoor.low n)).length ≤ kc; rw [List.length_map]; exact h5, by show ((tK t).map (Go.Proofs.YtmpfnglcmaollaaDoor.low n)).length ≤ _; rw [List.length_map]; exact h6, fun h0 => ?_⟩
    have h0' : 0 < (tK t).length := by
      have h9 : 0 < ((tK t).map (Go.Proofs.YtmpfnglcmaollaaDoor.low n)).length := h0
      rwa [List.length_map] at h9
    obtain ⟨kb, ko, e, h8⟩ := h7 h0'
    refine ⟨kb, ko, e, fun j k hj => ?_⟩
    have hj' : ((tK t).map (Go.Proofs.YtmpfnglcmaollaaDoor.low n))[j]? = some k := hj
    rw [List.getElem?_map] at hj'
    cases hk : (tK t)[j]? with
    | none => rw [hk] at hj'; cases hj'
    | some k' =>
      rw [hk] at hj'
      simp at hj'
      subst hj'
      obtain ⟨l, b', i', c1, c2, c3, c4⟩ := h8 j k' hk
      exact ⟨l, b', i', c1, c2, c3, c4.low⟩
/-- A value that is an item with these bytes, of such a height, of so many items. -/
def ItV (n : Nat) (w : World) (v : Value) (x : List Nat) (d c : Nat) : Prop := ∃ t : Tr n, IsV w n v t ∧ enc n t = x ∧ byT n t ∧ okT n t ∧ hgt n t d ∧ cnt n t ≤ c
theorem ItV.fr {n : Nat} {w w' : World} {v : Value} {x : List Nat} {d c : Nat} (h : ItV n w v x d c) (f : Fr [] w w') : ItV n w' v x d c := by
  obtain ⟨t, h1, h2⟩ := h
  exact ⟨t, h1.fr f, h2⟩
theorem ItV.low {n : Nat} {w : World} {v : Value} {x : List Nat} {d c : Nat} (h : ItV (n + 1) w v x d c) (hd : d ≤ n) : ItV n w v x d c := by
  obtain ⟨t, h1, h2, h3, h4, h5, h6⟩ := h
  exact ⟨_, h1.low, by rw [low_enc n t d h5 hd, h2], low_by n t h3, low_ok n t h4, low_hgt n t d h5 hd, Nat.le_trans (low_cnt n t) h6⟩
end Go.Proofs.YtmpfnglcmaollaaDoor
