/-
  Numbers, sums and frames without the program: the document's functions on lists of bytes, and what holds of them.
-/
import Derived.Laws.BitsAllLaws
import Derived.Test.YtmpfnglcmaollaaDoorRows
import Derived.WalkKit
import Derived.ProofKit
import Derived.OpenShut
import Derived.Handy
import Derived.WalkSpells
import Derived.BigQuiet
import Derived.Deep.QuietTactic
namespace Go.Proofs.YtmpfnglcmaollaaDoor

/-- Every number is a byte. -/
def By (ns : List Nat) : Prop := ∀ n ∈ ns, n < 256
theorem By.append {a b : List Nat} (h : By a) (k : By b) : By (a ++ b) := fun n hn => by
  rcases List.mem_append.1 hn with x | x
  · exact h n x
  · exact k n x
theorem By.take {a : List Nat} (h : By a) (k : Nat) : By (a.take k) := fun n hn => h n (List.mem_of_mem_take hn)
theorem By.drop {a : List Nat} (h : By a) (k : Nat) : By (a.drop k) := fun n hn => h n (List.mem_of_mem_drop hn)
theorem By.at {a : List Nat} (h : By a) {k n : Nat} (e : a[k]? = some n) : n < 256 := h n (List.mem_of_getElem? e)

/-- A number in groups of 7 bits, so many groups at most. -/
def putF : Nat → Nat → List Nat
  | 0, n => [n % 128]
  | f + 1, n => if n < 128 then [n] else (n % 128 + 128) :: putF f (n / 128)
theorem putF_fuel : ∀ (f g n : Nat), n ≤ f → n ≤ g → putF f n = putF g n
  | 0, 0, _, _, _ => rfl
  | 0, g + 1, n, h, _ => by
    have h0 : n = 0 := by omega
    subst h0; rfl
  | f + 1, 0, n, _, h => by
    have h0 : n = 0 := by omega
    subst h0; rfl
  | f + 1, g + 1, n, h1, h2 => by
    by_cases h : n < 128
    · rw [putF, putF, if_pos h, if_pos h]
    · rw [putF, putF, if_neg h, if_neg h, putF_fuel f g (n / 128) (by omega) (by omega)]
/-- A number in groups of 7 bits. -/
def putL (n : Nat) : List Nat := putF n n

theorem putL_lt {n : Nat} (h : n < 128) : putL n = [n] := by
  cases n with
  | zero => rfl
  | succ m => unfold putL; rw [putF, if_pos h]
theorem putL_ge {n : Nat} (h : 128 ≤ n) : putL n = (n % 128 + 128) :: putL (n / 128) := by
  cases n with
  | zero => omega
  | succ m => unfold putL; rw [putF, if_neg (by omega), putF_fuel m ((m + 1) / 128) ((m + 1) / 128) (by omega) (Nat.le_refl _)]
theorem putL_by (n : Nat) : By (putL n) := by
  induction n using Nat.strongRecOn with
  | _ n ih =>
    intro x hx
    by_cases h : n < 128
    · rw [putL_lt h] at hx; simp at hx; omega
    · rw [putL_ge (by omega)] at hx
      rcases List.mem_cons.1 hx with rfl | hx
      · omega
      · exact ih _ (by omega) x hx
theorem putL_pos (n : Nat) : 0 < (putL n).length := by
  by_cases h : n < 128
  · rw [putL_lt h]; simp
  · rw [putL_ge (by omega)]; simp
theorem putL_len : ∀ (k n : Nat), n < 128 ^ (k + 1) → (putL n).length ≤ k + 1
  | 0, n, h => by rw [putL_lt (by simpa using h)]; simp
  | k + 1, n, h => by
    by_cases h' : n < 128
    · rw [putL_lt h']; simp
    · rw [putL_ge (by omega)]
      have : n / 128 < 128 ^ (k + 1) := by rw [Nat.pow_succ] at h; omega
      have := putL_len k (n / 128) this
      simp only [List.length_cons]; omega
theorem putL_len10 {n : Nat} (h : n < 18446744073709551616) : (putL n).length ≤ 10 := putL_len 9 n (by omega)

/-- The number at a list's beginning: what Take tells from the i-th byte on. -/
def tk (i v : Nat) : List Nat → Nat × Nat × Nat
  | [] => (0, 0, 20)
  | x :: r => if i = 9 ∧ 1 < x ∨ 0 < i ∧ x = 0 then (0, 0, 21) else if x < 128 then (v + x % 128 * 2 ^ (7 * i), i + 1, 0) else tk (i + 1) (v + x % 128 * 2 ^ (7 * i)) r
def takeL (b : List Nat) : Nat × Nat × Nat := tk 0 0 b

theorem tk_put (more : List Nat) : ∀ (n i v : Nat), n < 2 ^ (64 - 7 * i) → i ≤ 9 → (0 < i → n ≠ 0) → tk i v (putL n ++ more) = (v + n * 2 ^ (7 * i), i + (putL n).length, 0) := by
  intro n
  induction n using Nat.strongRecOn with
  | _ n ih =>
    intro i v h hi h0
    by_cases hn : n < 128
    · rw [putL_lt hn]
      have h9 : ¬ (i = 9 ∧ 1 < n ∨ 0 < i ∧ n = 0) := by
        rintro (⟨rfl, h1⟩ | ⟨h1, h2⟩)
        · simp at h; omega
        · exact h0 h1 h2
      simp only [List.singleton_append, tk, if_neg h9, if_pos hn, List.length_singleton]
      rw [Nat.mod_eq_of_lt hn]
    · rw [putL_ge (by omega)]
      have hi8 : i ≤ 8 := by
        rcases Nat.lt_or_ge i 9 with h1 | h1
        · omega
        · have : i = 9 := by omega
          subst this; simp at h; omega
      have h9 : ¬ (i = 9 ∧ 1 < n % 128 + 128 ∨ 0 < i ∧ n % 128 + 128 = 0) := by omega
      have hp : 2 ^ (64 - 7 * i) = 128 * 2 ^ (64 - 7 * (i + 1)) := by
        rw [show (128 : Nat) = 2 ^ 7 from rfl, ← Nat.pow_add]; congr 1; omega
      simp only [List.cons_append, tk, if_neg h9, if_neg (show ¬ (n % 128 + 128 < 128) by omega), List.length_cons]
      rw [ih (n / 128) (by omega) (i + 1) _ (by rw [hp] at h; omega) (by omega) (by omega)]
      have e1 : (n % 128 + 128) % 128 = n % 128 := by omega
      have e2 : 2 ^ (7 * (i + 1)) = 128 * 2 ^ (7 * i) := by rw [show (128 : Nat) = 2 ^ 7 from rfl, ← Nat.pow_add]; congr 1; omega
      rw [e1, e2]
      refine Prod.ext ?_ (Prod.ext (by simp; omega) rfl)
      show v + n % 128 * 2 ^ (7 * i) + n / 128 * (128 * 2 ^ (7 * i)) = v + n * 2 ^ (7 * i)
      have : n * 2 ^ (7 * i) = (n % 128 + 128 * (n / 128)) * 2 ^ (7 * i) := by rw [Nat.mod_add_div]
      rw [this, Nat.add_mul, Nat.add_assoc, show n / 128 * (128 * 2 ^ (7 * i)) = 128 * (n / 128) * 2 ^ (7 * i) from by rw [← Nat.mul_assoc, Nat.mul_comm (n / 128) 128]]
theorem takeL_put {n : Nat} (h : n < 18446744073709551616) (more : List Nat) : takeL (putL n ++ more) = (n, (putL n).length, 0) := by
  unfold takeL; rw [tk_put more n 0 0 h (by omega) (by omega)]; simp

/-- What Take tells is within its bounds. -/
theorem tk_bound : ∀ (b : List Nat), By b → ∀ (i v : Nat), i ≤ 9 → v < 2 ^ (7 * i) → (tk i v b).1 < 18446744073709551616 ∧ (tk i v b).2.1 ≤ i + b.length ∧ (tk i v b).2.1 ≤ 10
  | [], _, i, v, _, _ => by simp [tk]
  | x :: r, hb, i, v, hi, hv => by
    unfold tk
    by_cases h1 : i = 9 ∧ 1 < x ∨ 0 < i ∧ x = 0
    · rw [if_pos h1]; simp
    rw [if_neg h1]
    have hstep : v + x % 128 * 2 ^ (7 * i) < 2 ^ (7 * (i + 1)) := by
      have e2 : 2 ^ (7 * (i + 1)) = 128 * 2 ^ (7 * i) := by rw [show (128 : Nat) = 2 ^ 7 from rfl, ← Nat.pow_add]; congr 1; omega
      have : x % 128 * 2 ^ (7 * i) ≤ 127 * 2 ^ (7 * i) := Nat.mul_le_mul_right _ (by omega)
      omega
    by_cases h2 : x < 128
    · rw [if_pos h2]
      refine ⟨?_, by simp only [List.length_cons]; omega, by simp only; omega⟩
      show v + x % 128 * 2 ^ (7 * i) < 18446744073709551616
      rcases Nat.lt_or_ge i 9 with h3 | h3
      · have : 2 ^ (7 * (i + 1)) ≤ 2 ^ 63 := Nat.pow_le_pow_right (by omega) (by omega)
        omega
      · have h9 : i = 9 := by omega
        subst h9
        simp at hv ⊢
        have : x % 128 ≤ 1 := by omega
        omega
    · rw [if_neg h2]
      have h8 : i ≤ 8 := by omega
      have := tk_bound r (fun n hn => hb n (List.mem_cons_of_mem _ hn)) (i + 1) _ (by omega) hstep
      simp only [List.length_cons]
      exact ⟨this.1, by omega, this.2.2⟩

/-- The number of bytes, the lowest first. -/
def unf : List Nat → Nat
  | [] => 0
  | x :: r => x + 256 * unf r
/-- So many bytes of a number, the lowest first. -/
def fixL (n : Nat) : Nat → List Nat
  | 0 => []
  | k + 1 => n % 256 :: fixL (n / 256) k
theorem fixL_len : ∀ (k n : Nat), (fixL n k).length = k
  | 0, _ => rfl
  | k + 1, n => by simp [fixL, fixL_len k]
theorem fixL_by : ∀ (k n : Nat), By (fixL n k)
  | 0, _ => fun x hx => by simp [fixL] at hx
  | k + 1, n => fun x hx => by
    rcases List.mem_cons.1 hx with rfl | hx
    · omega
    · exact fixL_by k _ x hx
theorem unf_fixL : ∀ (k n : Nat), unf (fixL n k) = n % 256 ^ k
  | 0, n => by simp [fixL, unf, Nat.mod_one]
  | k + 1, n => by
    simp only [fixL, unf]
    rw [unf_fixL k, Nat.pow_succ, Nat.mul_comm (256 ^ k) 256, Nat.mod_mul]
theorem fixL_unf : ∀ (b : List Nat), By b → fixL (unf b) b.length = b
  | [], _ => rfl
  | x :: r, h => by
    have hx := h x (by simp)
    simp only [List.length_cons, fixL, unf]
    rw [show (x + 256 * unf r) % 256 = x by omega, show (x + 256 * unf r) / 256 = unf r by omega, fixL_unf r fun n hn => h n (List.mem_cons_of_mem _ hn)]
theorem unf_lt : ∀ (b : List Nat), By b → unf b < 256 ^ b.length
  | [], _ => by simp [unf]
  | x :: r, h => by
    have hx := h x (by simp)
    have := unf_lt r fun n hn => h n (List.mem_cons_of_mem _ hn)
    simp only [List.length_cons, unf, Nat.pow_succ]; omega
theorem fixL_snoc : ∀ (k n : Nat), fixL n (k + 1) = fixL n k ++ [n / 256 ^ k % 256]
  | 0, n => by simp [fixL]
  | k + 1, n => by
    rw [fixL, fixL_snoc k, fixL, List.cons_append, Nat.pow_succ, Nat.div_div_eq_div_mul, Nat.mul_comm 256]
theorem unf_snoc : ∀ (b : List Nat) (x : Nat), unf (b ++ [x]) = unf b + x * 256 ^ b.length
  | [], x => by simp [unf]
  | y :: r, x => by
    simp only [List.cons_append, unf, unf_snoc r x, List.length_cons, Nat.pow_succ]
    rw [Nat.mul_add, Nat.add_assoc, Nat.mul_left_comm, Nat.mul_comm 256 (256 ^ r.length)]

/-- One bit of the sum. -/
def cs (r : Nat) : Nat := (r / 2) ^^^ (if r % 2 = 1 then 2197175160 else 0)
def csN : Nat → Nat → Nat
  | 0, r => r
  | k + 1, r => cs (csN k r)
def crcF (r : Nat) : List Nat → Nat
  | [] => r
  | x :: b => crcF (csN 8 (r ^^^ x)) b
def crc (b : List Nat) : Nat := 4294967295 ^^^ crcF 4294967295 b

theorem xor_lt32 {a b : Nat} (ha : a < 4294967296) (hb : b < 4294967296) : a ^^^ b < 4294967296 := Nat.xor_lt_two_pow (n := 32) ha hb
theorem cs_lt {r : Nat} (h : r < 4294967296) : cs r < 4294967296 := by
  unfold cs; refine xor_lt32 (by omega) ?_; split <;> omega
theorem csN_lt : ∀ (k : Nat) {r : Nat}, r < 4294967296 → csN k r < 4294967296
  | 0, _, h => h
  | k + 1, _, h => cs_lt (csN_lt k h)
theorem crcF_lt : ∀ (b : List Nat), By b → ∀ {r : Nat}, r < 4294967296 → crcF r b < 4294967296
  | [], _, _, h => h
  | x :: b, hb, _, h => crcF_lt b (fun n hn => hb n (List.mem_cons_of_mem _ hn)) (csN_lt 8 (xor_lt32 h (by have := hb x (by simp); omega)))
theorem crc_lt {b : List Nat} (h : By b) : crc b < 4294967296 := xor_lt32 (by omega) (crcF_lt b h (by omega))
theorem crcF_append : ∀ (a b : List Nat) (r : Nat), crcF r (a ++ b) = crcF (crcF r a) b
  | [], _, _ => rfl
  | _ :: a, b, _ => crcF_append a b _

theorem xorL {a b c : Nat} (h : a ^^^ b = a ^^^ c) : b = c := by
  have := congrArg (a ^^^ ·) h
  simpa [← Nat.xor_assoc] using this
theorem xorR {a b c : Nat} (h : b ^^^ a = c ^^^ a) : b = c := xorL (a := a) (by rw [Nat.xor_comm a, Nat.xor_comm a]; exact h)

theorem cs_xor (a b : Nat) : cs (a ^^^ b) = cs a ^^^ cs b := by
  unfold cs
  have h1 : (a ^^^ b) / 2 = a / 2 ^^^ b / 2 := by
    have := Nat.shiftRight_xor_distrib (a := a) (b := b) (i := 1)
    simpa [Nat.shiftRight_eq_div_pow] using this
  have h2 : (a ^^^ b) % 2 = (a % 2 + b % 2) % 2 := by
    have hx := @Nat.xor_mod_two_eq_one a b
    have hm := Nat.mod_two_eq_zero_or_one (a ^^^ b)
    clear h1
    generalize (a ^^^ b) % 2 = m at hx hm ⊢
    rcases Nat.mod_two_eq_zero_or_one a with ha | ha <;> rcases Nat.mod_two_eq_zero_or_one b with hb | hb <;> rcases hm with rfl | rfl <;> simp_all
  rw [h1, h2]
  rcases Nat.mod_two_eq_zero_or_one a with ha | ha <;> rcases Nat.mod_two_eq_zero_or_one b with hb | hb <;> simp only [ha, hb]
  · simp
  · simp [Nat.xor_assoc]
  · simp only [Nat.zero_ne_one, if_true, if_false, Nat.xor_zero]; ac_rfl
  · simp only [if_true]
    have e : a / 2 ^^^ 2197175160 ^^^ (b / 2 ^^^ 2197175160) = a / 2 ^^^ b / 2 ^^^ (2197175160 ^^^ 2197175160) := by ac_rfl
    rw [e, Nat.xor_self]; simp
theorem csN_xor : ∀ (k a b : Nat), csN k (a ^^^ b) = csN k a ^^^ csN k b
  | 0, _, _ => rfl
  | k + 1, a, b => by rw [csN, csN_xor k, cs_xor]; rfl
theorem cs_inj {a b : Nat} (ha : a < 4294967296) (hb : b < 4294967296) (h : cs a = cs b) : a = b := by
  have key : ∀ {x : Nat}, x < 4294967296 → (cs x).testBit 31 = decide (x % 2 = 1) := by
    intro x hx
    unfold cs
    rw [Nat.testBit_xor, Nat.testBit_lt_two_pow (x := x / 2) (i := 31) (by omega)]
    by_cases h1 : x % 2 = 1
    · rw [if_pos h1, decide_eq_true h1]; decide
    · rw [if_neg h1, decide_eq_false h1]; decide
  have hm : a % 2 = b % 2 := by
    have h1 := key ha; have h2 := key hb
    rw [h, h2] at h1
    have := decide_eq_decide.1 h1
    omega
  unfold cs at h
  rw [hm] at h
  have hd := xorR h
  omega
theorem csN_inj : ∀ (k : Nat) {a b : Nat}, a < 4294967296 → b < 4294967296 → csN k a = csN k b → a = b
  | 0, _, _, _, _, h => h
  | k + 1, _, _, ha, hb, h => csN_inj k ha hb (cs_inj (csN_lt k ha) (csN_lt k hb) h)
theorem crcF_inj : ∀ (b : List Nat), By b → ∀ {r s : Nat}, r < 4294967296 → s < 4294967296 → crcF r b = crcF s b → r = s
  | [], _, _, _, _, _, h => h
  | x :: b, hb, r, s, hr, hs, h => by
    have hx : x < 4294967296 := by have := hb x (by simp); omega
    have h1 := crcF_inj b (fun n hn => hb n (List.mem_cons_of_mem _ hn)) (csN_lt 8 (xor_lt32 hr hx)) (csN_lt 8 (xor_lt32 hs hx)) h
    exact xorR (csN_inj 8 (xor_lt32 hr hx) (xor_lt32 hs hx) h1)
/-- A changed byte changes the sum. -/
theorem crc_change {a : List Nat} {x y : Nat} {b : List Nat} (ha : By a) (hx : x < 256) (hy : y < 256) (hb : By b) (hne : x ≠ y) : crc (a ++ x :: b) ≠ crc (a ++ y :: b) := by
  intro h
  unfold crc at h
  have h1 := xorL h
  rw [crcF_append, crcF_append, crcF, crcF] at h1
  have hr : crcF 4294967295 a < 4294967296 := crcF_lt a ha (by omega)
  have h2 := crcF_inj b hb (csN_lt 8 (xor_lt32 hr (by omega))) (csN_lt 8 (xor_lt32 hr (by omega))) h1
  exact hne (xorL (csN_inj 8 (xor_lt32 hr (by omega)) (xor_lt32 hr (by omega)) h2))

/-- Three rows of bytes laid over one another. -/
def x3 : List Nat → List Nat → List Nat → List Nat
  | a :: az, b :: bs, c :: cs => (a ^^^ b ^^^ c) :: x3 az bs cs
  | _, _, _ => []
theorem crcF_x3 : ∀ (a b c : List Nat) (r s t : Nat), a.length = b.length → b.length = c.length → crcF (r ^^^ s ^^^ t) (x3 a b c) = crcF r a ^^^ crcF s b ^^^ crcF t c
  | [], [], [], _, _, _, _, _ => rfl
  | x :: a, y :: b, z :: c, r, s, t, h1, h2 => by
    simp only [x3, crcF]
    rw [show r ^^^ s ^^^ t ^^^ (x ^^^ y ^^^ z) = (r ^^^ x) ^^^ (s ^^^ y) ^^^ (t ^^^ z) from by ac_rfl, csN_xor, csN_xor]
    exact crcF_x3 a b c _ _ _ (by simpa using h1) (by simpa using h2)
  | [], [], _ :: _, _, _, _, _, h2 => by simp at h2
  | [], _ :: _, _, _, _, _, h1, _ => by simp at h1
  | _ :: _, [], _, _, _, _, h1, _ => by simp at h1
  | _ :: _, _ :: _, [], _, _, _, _, h2 => by simp at h2
theorem crc_x3 {a b c : List Nat} (h1 : a.length = b.length) (h2 : b.length = c.length) : crc (x3 a b c) = crc a ^^^ crc b ^^^ crc c := by
  unfold crc
  have h := crcF_x3 a b c 4294967295 4294967295 4294967295 h1 h2
  rw [Nat.xor_self, Nat.zero_xor] at h
  rw [h]
  have e : 4294967295 ^^^ crcF 4294967295 a ^^^ (4294967295 ^^^ crcF 4294967295 b) ^^^ (4294967295 ^^^ crcF 4294967295 c) = (4294967295 ^^^ 4294967295) ^^^ 4294967295 ^^^ (crcF 4294967295 a ^^^ crcF 4294967295 b ^^^ crcF 4294967295 c) := by ac_rfl
  rw [e, Nat.xor_self, Nat.zero_xor]
end Go.Proofs.YtmpfnglcmaollaaDoor
namespace Go.Proofs.YtmpfnglcmaollaaDoor

/-- A key's nibbles. -/
def nibF : List Nat → List Nat
  | [] => []
  | x :: b => x / 16 :: x % 16 :: nibF b
theorem nibF_app : ∀ (a b : List Nat), nibF (a ++ b) = nibF a ++ nibF b
  | [], b => rfl
  | x :: a, b => by simp [nibF, nibF_app a b]
theorem nibF_len : ∀ (b : List Nat), (nibF b).length = 2 * b.length
  | [] => rfl
  | x :: b => by simp [nibF, nibF_len b]; omega
/-- Nibbles, each below 16. -/
def Nb (p : List Nat) : Prop := ∀ x ∈ p, x < 16
theorem nibF_nb : ∀ {b : List Nat}, By b → Nb (nibF b)
  | [], _ => fun x hx => by cases hx
  | y :: b, h => fun x hx => by
    have hy := h y (by simp)
    simp only [nibF, List.mem_cons] at hx
    rcases hx with rfl | rfl | hx
    · omega
    · omega
    · exact nibF_nb (fun z hz => h z (by simp [hz])) x hx
theorem Nb.by {p : List Nat} (h : Nb p) : By p := fun x hx => by have := h x hx; omega
/-- Pairs of nibbles as bytes. -/
def prsF : List Nat → List Nat
  | x :: y :: l => (16 * x + y) :: prsF l
  | _ => []
theorem prsF_len : ∀ (l : List Nat), (prsF l).length = l.length / 2
  | [] => rfl
  | [x] => by simp [prsF]
  | x :: y :: l => by simp [prsF, prsF_len l]; omega
theorem prsF_at : ∀ (l : List Nat) (i x y : Nat), l[2 * i]? = some x → l[2 * i + 1]? = some y → (prsF l)[i]? = some (16 * x + y)
  | [], i, x, y, h, _ => by simp at h
  | [a], i, x, y, h, k => by
    rw [List.getElem?_eq_none (by simp)] at k; cases k
  | a :: b :: l, 0, x, y, h, k => by simp at h k; subst h; subst k; rfl
  | a :: b :: l, i + 1, x, y, h, k => by
    rw [show 2 * (i + 1) = 2 * i + 1 + 1 by omega] at h
    rw [show 2 * (i + 1) + 1 = 2 * i + 1 + 1 + 1 by omega] at k
    simp only [List.getElem?_cons_succ] at h k
    simp only [prsF, List.getElem?_cons_succ]
    exact prsF_at l i x y h k
theorem prsF_nib : ∀ {l : List Nat}, Nb l → l.length % 2 = 0 → nibF (prsF l) = l
  | [], _, _ => rfl
  | [a], _, h => by simp at h
  | a :: b :: l, hn, h => by
    have ha := hn a (by simp)
    have hb := hn b (by simp)
    simp only [prsF, nibF]
    rw [prsF_nib (fun x hx => hn x (by simp [hx])) (by simp only [List.length_cons] at h; omega)]
    rw [show (16 * a + b) / 16 = a by omega, show (16 * a + b) % 16 = b by omega]
theorem nibF_prs : ∀ {b : List Nat}, By b → prsF (nibF b) = b
  | [], _ => rfl
  | x :: b, h => by
    simp only [nibF, prsF]
    rw [nibF_prs (fun y hy => h y (by simp [hy])), show 16 * (x / 16) + x % 16 = x by omega]
/-- What a path is laid behind. -/
def wayF (leaf : Bool) : Nat := if leaf then 2 else 0
def aheadF (p : List Nat) (leaf : Bool) : List Nat := if p.length % 2 = 1 then [wayF leaf + 1] else [wayF leaf, 0]
/-- May a path be packed? -/
def okP (p : List Nat) : Bool := decide (p.length ≤ 128) && p.all (fun x => decide (x ≤ 15))
/-- A path, packed. -/
def packF (p : List Nat) (leaf : Bool) : List Nat := prsF (aheadF p leaf ++ p)
theorem okP_nb {p : List Nat} (h : okP p = true) : Nb p := fun x hx => by
  unfold okP at h
  simp only [Bool.and_eq_true, List.all_eq_true, decide_eq_true_eq] at h
  have := h.2 x hx
  omega
theorem okP_len {p : List Nat} (h : okP p = true) : p.length ≤ 128 := by
  unfold okP at h
  simp only [Bool.and_eq_true, decide_eq_true_eq] at h
  exact h.1
theorem ahead_len (p : List Nat) (leaf : Bool) : (aheadF p leaf ++ p).length % 2 = 0 ∧ (aheadF p leaf).length ≤ 2 ∧ 1 ≤ (aheadF p leaf).length := by
  unfold aheadF
  split
  · simp; omega
  · simp; omega
theorem way_le (leaf : Bool) : wayF leaf ≤ 2 := by cases leaf <;> decide
theorem ahead_nb (p : List Nat) (leaf : Bool) : Nb (aheadF p leaf) := fun x hx => by
  have hw := way_le leaf
  unfold aheadF at hx
  split at hx
  · simp at hx; omega
  · simp at hx; omega
theorem packF_len (p : List Nat) (leaf : Bool) : (packF p leaf).length = p.length / 2 + 1 := by
  unfold packF
  rw [prsF_len, List.length_append]
  unfold aheadF
  split
  · simp; omega
  · simp
theorem prsF_by : ∀ {l : List Nat}, Nb l → By (prsF l)
  | [], _ => fun x hx => by cases hx
  | [a], _ => fun x hx => by cases hx
  | a :: b :: l, h => fun x hx => by
    simp only [prsF, List.mem_cons] at hx
    have ha := h a (by simp)
    have hb := h b (by simp)
    rcases hx with rfl | hx
    · omega
    · exact prsF_by (fun y hy => h y (by simp [hy])) x hx
theorem packF_by {p : List Nat} (h : Nb p) (leaf : Bool) : By (packF p leaf) := prsF_by (fun x hx => by
  rcases List.mem_append.1 hx with hx | hx
  · exact ahead_nb p leaf x hx
  · exact h x hx)
/-- What bytes are unpacked to. -/
def unpF (b : List Nat) : Option (List Nat × Bool) :=
  match nibF b with
  | [] => none
  | 0 :: y :: l => if y = 0 ∧ l.length ≤ 128 then some (l, false) else none
  | 1 :: l => if l.length ≤ 128 then some (l, false) else none
  | 2 :: y :: l => if y = 0 ∧ l.length ≤ 128 then some (l, true) else none
  | 3 :: l => if l.length ≤ 128 then some (l, true) else none
  | _ => none
theorem unp_pack {p : List Nat} (h : okP p = true) (leaf : Bool) : unpF (packF p leaf) = some (p, leaf) := by
  have hl := okP_len h
  have hn : nibF (packF p leaf) = aheadF p leaf ++ p := prsF_nib (fun x hx => by
    rcases List.mem_append.1 hx with hx | hx
    · exact ahead_nb p leaf x hx
    · exact okP_nb h x hx) (ahead_len p leaf).1
  by_cases hp : p.length % 2 = 1
  · have ha : aheadF p leaf = [wayF leaf + 1] := if_pos hp
    unfold unpF
    rw [hn, ha]
    cases leaf <;> simp [wayF, hl]
  · have ha : aheadF p leaf = [wayF leaf, 0] := if_neg hp
    unfold unpF
    rw [hn, ha]
    cases leaf <;> simp [wayF, hl]
end Go.Proofs.YtmpfnglcmaollaaDoor
namespace Go.Proofs.YtmpfnglcmaollaaDoor
open Go.ChangeShapes Go.WideShapes Go.ChangeAt Go.RowKit

theorem hid {p : Prop} (h : p) : Hid p := h
theorem blk_lt {w : World} {b : Nat} {o : Obj} (h : w.heap[b]? = some o) : b < w.heap.size := (Array.getElem?_eq_some_iff.1 h).1
theorem blk_cell {w : World} {b : Nat} {cs : Array Value} {t : TypeId} (h : w.heap[b]? = some (.cells cs t (0, 0))) (i : Nat) : w.cell? ⟨b, i, none⟩ = cs[i]? := by
  simp [World.cell?, h]
theorem blk_frozen {w : World} {b : Nat} {cs : Array Value} {t : TypeId} (h : w.heap[b]? = some (.cells cs t (0, 0))) (i : Nat) : w.frozen? ⟨b, i, none⟩ = false := by
  simp [World.frozen?, h]
theorem blk_set {w : World} {b : Nat} {cs : Array Value} {t : TypeId} (h : w.heap[b]? = some (.cells cs t (0, 0))) (i : Nat) (v : Value) :
    (w.setCell ⟨b, i, none⟩ v).heap[b]? = some (.cells (cs.setIfInBounds i v) t (0, 0)) := by
  simp only [World.setCell, Array.getElem?_modify, if_true, h, Option.map_some]; rfl
theorem blk_setne (w : World) {b k : Nat} (i : Nat) (v : Value) (h : k ≠ b) : (w.setCell ⟨b, i, none⟩ v).heap[k]? = w.heap[k]? :=
  Below.heap_setCell _ _ _ _ h
theorem blk_drew (w : World) (k : Nat) : w.drew.heap[k]? = w.heap[k]? := rfl
theorem heap_drewN (w : World) (n : Nat) : (w.drewN n).heap = w.heap := by induction n generalizing w with
  | zero => rfl
  | succ n ih => exact ih w.drew
theorem os_drewN (w : World) (n : Nat) : (w.drewN n).os = w.os ∧ (w.drewN n).tape = w.tape ∧ (w.drewN n).output = w.output := by induction n generalizing w with
  | zero => exact ⟨rfl, rfl, rfl⟩
  | succ n ih => exact ih w.drew
theorem blk_drewN (w : World) (n k : Nat) : (w.drewN n).heap[k]? = w.heap[k]? := by rw [heap_drewN]
theorem blk_old (w : World) (o : Obj) {k : Nat} (h : k < w.heap.size) : (w.alloc o).heap[k]? = w.heap[k]? := Below.heap_alloc w o k h
theorem blk_new (w : World) (o : Obj) : (w.alloc o).heap[w.heap.size]? = some o := heap_alloc_new w o

theorem new_at (w : World) (o : Obj) {k : Nat} (h : k = w.heap.size) : (w.alloc o).heap[k]? = some o := by rw [h]; exact blk_new w o

/-- All blocks but those of S are as they were; none has gone. -/
structure Fr (S : List Nat) (w w' : World) : Prop where
  os : w'.os = w.os
  tape : w'.tape = w.tape
  output : w'.output = w.output
  size : w.heap.size ≤ w'.heap.size
  block : ∀ k, k < w.heap.size → k ∉ S → w'.heap[k]? = w.heap[k]?

theorem Fr.refl (S : List Nat) (w : World) : Fr S w w := ⟨rfl, rfl, rfl, Nat.le_refl _, fun _ _ _ => rfl⟩
theorem Fr.trans {S : List Nat} {a b c : World} (h : Fr S a b) (k : Fr S b c) : Fr S a c :=
  ⟨k.os.trans h.os, k.tape.trans h.tape, k.output.trans h.output, Nat.le_trans h.size k.size, fun i hi hs => (k.block i (Nat.lt_of_lt_of_le hi h.size) hs).trans (h.block i hi hs)⟩
theorem Fr.mono {S S' : List Nat} {a b : World} (h : Fr S a b) (hs : ∀ k ∈ S, k ∈ S') : Fr S' a b :=
  ⟨h.os, h.tape, h.output, h.size, fun k hk hn => h.block k hk (fun e => hn (hs k e))⟩
/-- What lies in blocks that were not there before may be left out of S. -/
theorem Fr.shed {S S' : List Nat} {a b : World} (h : Fr S a b) (hs : ∀ k ∈ S, k < a.heap.size → k ∈ S') : Fr S' a b :=
  ⟨h.os, h.tape, h.output, h.size, fun k hk hn => h.block k hk (fun e => hn (hs k e hk))⟩
theorem Fr.drew {S : List Nat} {a b : World} (h : Fr S a b) : Fr S a b.drew := ⟨h.os, h.tape, h.output, h.size, h.block⟩
theorem Fr.drewN {S : List Nat} {a b : World} (h : Fr S a b) (n : Nat) : Fr S a (b.drewN n) :=
  have e := os_drewN b n
  ⟨e.1.trans h.os, e.2.1.trans h.tape, e.2.2.trans h.output, by rw [heap_drewN]; exact h.size, fun k hk hn => by rw [heap_drewN]; exact h.block k hk hn⟩
theorem Fr.alloc {S : List Nat} {a b : World} (h : Fr S a b) (o : Obj) : Fr S a (b.alloc o) :=
  h.trans ⟨rfl, rfl, rfl, by simp, fun k hk _ => blk_old _ _ hk⟩
theorem Fr.set {S : List Nat} {a b : World} (h : Fr S a b) {p : Nat} (i : Nat) (v : Value) (hp : p ∈ S ∨ a.heap.size ≤ p) : Fr S a (b.setCell ⟨p, i, none⟩ v) :=
  ⟨h.os, h.tape, h.output, by simpa [World.setCell] using h.size, fun k hk hn => by
    rw [blk_setne _ _ _ (by rcases hp with hp | hp <;> intro e <;> subst e; exact hn hp; omega)]; exact h.block k hk hn⟩
theorem Fr.grown {S : List Nat} {a b c : World} {row : Option Nat} (h : Fr S a b) (hg : b.grownBy c row) (hr : ∀ k, row = some k → k ∈ S ∨ a.heap.size ≤ k) : Fr S a c :=
  ⟨hg.os.trans h.os, hg.tape.trans h.tape, hg.output.trans h.output, Nat.le_trans h.size hg.size, fun k hk hn => by
    rw [hg.block k (Nat.lt_of_lt_of_le hk h.size) (fun e => by rcases hr k e.symm with x | x; exact hn x; omega)]; exact h.block k hk hn⟩
theorem Fr.at {S : List Nat} {a b : World} (h : Fr S a b) {k : Nat} {o : Obj} (hk : a.heap[k]? = some o) (hn : k ∉ S) : b.heap[k]? = some o := by
  rw [h.block k (blk_lt hk) hn]; exact hk
theorem Fr.below {S : List Nat} {a b : World} {B : Nat} (h : Fr S a b) (hB : B ≤ a.heap.size) (hs : ∀ k ∈ S, B ≤ k) : Below B a b :=
  ⟨h.os, h.tape, h.output, h.size, fun k hk => h.block k (by omega) (fun e => by have := hs k e; omega)⟩
end Go.Proofs.YtmpfnglcmaollaaDoor
