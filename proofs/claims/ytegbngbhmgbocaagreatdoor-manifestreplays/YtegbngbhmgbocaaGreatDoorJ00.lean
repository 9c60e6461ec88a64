/-
  Numbers, sums and frames without the program: the document's functions on lists of bytes, and what holds of them.
-/
import Derived.Laws.BitsAllLaws
namespace Go.Proofs.YtegbngbhmgbocaaGreatDoor

/-- Every number is a byte. -/
def By (ns : List Nat) : Prop := ∀ n ∈ ns, n < 256
theorem By.append {a b : List Nat} (h : By a) (k : By b) : By (a ++ b) := fun n hn => by
  rcases List.mem_append.1 hn with x | x
  · exact h n x
  · exact k n x
theorem By.take {a : List Nat} (h : By a) (k : Nat) : By (a.take k) := fun n hn => h n (List.mem_of_mem_take hn)
theorem By.drop {a : List Nat} (h : By a) (k : Nat) : By (a.drop k) := fun n hn => h n (List.mem_of_mem_drop hn)
theorem By.at {a : List Nat} (h : By a) {k n : Nat} (e : a[k]? = some n) : n < 256 := h n (List.mem_of_getElem? e)

/-- A number in groups of 7 bits, so many groups at most. -/
def putF : Nat → Nat → List Nat
  | 0, n => [n % 128]
  | f + 1, n => if n < 128 then [n] else (n % 128 + 128) :: putF f (n / 128)
theorem putF_fuel : ∀ (f g n : Nat), n ≤ f → n ≤ g → putF f n = putF g n
  | 0, 0, _, _, _ => rfl
  | 0, g + 1, n, h, _ => by
    have h0 : n = 0 := by omega
    subst h0; rfl
  | f + 1, 0, n, _, h => by
    have h0 : n = 0 := by omega
    subst h0; rfl
  | f + 1, g + 1, n, h1, h2 => by
    by_cases h : n < 128
    · rw [putF, putF, if_pos h, if_pos h]
    · rw [putF, putF, if_neg h, if_neg h, putF_fuel f g (n / 128) (by omega) (by omega)]
/-- A number in groups of 7 bits. -/
def putL (n : Nat) : List Nat := putF n n

theorem putL_lt {n : Nat} (h : n < 128) : putL n = [n] := by
  cases n with
  | zero => rfl
  | succ m => unfold putL; rw [putF, if_pos h]
theorem putL_ge {n : Nat} (h : 128 ≤ n) : putL n = (n % 128 + 128) :: putL (n / 128) := by
  cases n with
  | zero => omega
  | succ m => unfold putL; rw [putF, if_neg (by omega), putF_fuel m ((m + 1) / 128) ((m + 1) / 128) (by omega) (Nat.le_refl _)]
theorem putL_by (n : Nat) : By (putL n) := by
  induction n using Nat.strongRecOn with
  | _ n ih =>
    intro x hx
    by_cases h : n < 128
    · rw [putL_lt h] at hx; simp at hx; omega
    · rw [putL_ge (by omega)] at hx
      rcases List.mem_cons.1 hx with rfl | hx
      · omega
      · exact ih _ (by omega) x hx
theorem putL_pos (n : Nat) : 0 < (putL n).length := by
  by_cases h : n < 128
  · rw [putL_lt h]; simp
  · rw [putL_ge (by omega)]; simp
theorem putL_len : ∀ (k n : Nat), n < 128 ^ (k + 1) → (putL n).length ≤ k + 1
  | 0, n, h => by rw [putL_lt (by simpa using h)]; simp
  | k + 1, n, h => by
    by_cases h' : n < 128
    · rw [putL_lt h']; simp
    · rw [putL_ge (by omega)]
      have : n / 128 < 128 ^ (k + 1) := by rw [Nat.pow_succ] at h; omega
      have := putL_len k (n / 128) this
      simp only [List.length_cons]; omega
theorem putL_len10 {n : Nat} (h : n < 18446744073709551616) : (putL n).length ≤ 10 := putL_len 9 n (by omega)

/-- The number at a list's beginning: what Take tells from the i-th byte on. -/
def tk (i v : Nat) : List Nat → Nat × Nat × Nat
  | [] => (0, 0, 20)
  | x :: r => if i = 9 ∧ 1 < x ∨ 0 < i ∧ x = 0 then (0, 0, 21) else if x < 128 then (v + x % 128 * 2 ^ (7 * i), i + 1, 0) else tk (i + 1) (v + x % 128 * 2 ^ (7 * i)) r
def takeL (b : List Nat) : Nat × Nat × Nat := tk 0 0 b

theorem tk_put (more : List Nat) : ∀ (n i v : Nat), n < 2 ^ (64 - 7 * i) → i ≤ 9 → (0 < i → n ≠ 0) → tk i v (putL n ++ more) = (v + n * 2 ^ (7 * i), i + (putL n).length, 0) := by
  intro n
  induction n using Nat.strongRecOn with
  | _ n ih =>
    intro i v h hi h0
    by_cases hn : n < 128
    · rw [putL_lt hn]
      have h9 : ¬ (i = 9 ∧ 1 < n ∨ 0 < i ∧ n = 0) := by
        rintro (⟨rfl, h1⟩ | ⟨h1, h2⟩)
        · simp at h; omega
        · exact h0 h1 h2
      simp only [List.singleton_append, tk, if_neg h9, if_pos hn, List.length_singleton]
      rw [Nat.mod_eq_of_lt hn]
    · rw [putL_ge (by omega)]
      have hi8 : i ≤ 8 := by
        rcases Nat.lt_or_ge i 9 with h1 | h1
        · omega
        · have : i = 9 := by omega
          subst this; simp at h; omega
      have h9 : ¬ (i = 9 ∧ 1 < n % 128 + 128 ∨ 0 < i ∧ n % 128 + 128 = 0) := by omega
      have hp : 2 ^ (64 - 7 * i) = 128 * 2 ^ (64 - 7 * (i + 1)) := by
        rw [show (128 : Nat) = 2 ^ 7 from rfl, ← Nat.pow_add]; congr 1; omega
      simp only [List.cons_append, tk, if_neg h9, if_neg (show ¬ (n % 128 + 128 < 128) by omega), List.length_cons]
      rw [ih (n / 128) (by omega) (i + 1) _ (by rw [hp] at h; omega) (by omega) (by omega)]
      have e1 : (n % 128 + 128) % 128 = n % 128 := by omega
      have e2 : 2 ^ (7 * (i + 1)) = 128 * 2 ^ (7 * i) := by rw [show (128 : Nat) = 2 ^ 7 from rfl, ← Nat.pow_add]; congr 1; omega
      rw [e1, e2]
      refine Prod.ext ?_ (Prod.ext (by simp; omega) rfl)
      show v + n % 128 * 2 ^ (7 * i) + n / 128 * (128 * 2 ^ (7 * i)) = v + n * 2 ^ (7 * i)
      have : n * 2 ^ (7 * i) = (n % 128 + 128 * (n / 128)) * 2 ^ (7 * i) := by rw [Nat.mod_add_div]
      rw [this, Nat.add_mul, Nat.add_assoc, show n / 128 * (128 * 2 ^ (7 * i)) = 128 * (n / 128) * 2 ^ (7 * i) from by rw [← Nat.mul_assoc, Nat.mul_comm (n / 128) 128]]
theorem takeL_put {n : Nat} (h : n < 18446744073709551616) (more : List Nat) : takeL (putL n ++ more) = (n, (putL n).length, 0) := by
  unfold takeL; rw [tk_put more n 0 0 h (by omega) (by omega)]; simp

/-- What Take tells is within its bounds. -/
theorem tk_bound : ∀ (b : List Nat), By b → ∀ (i v : Nat), i ≤ 9 → v < 2 ^ (7 * i) → (tk i v b).1 < 18446744073709551616 ∧ (tk i v b).2.1 ≤ i + b.length ∧ (tk i v b).2.1 ≤ 10
  | [], _, i, v, _, _ => by simp [tk]
  | x :: r, hb, i, v, hi, hv => by
    unfold tk
    by_cases h1 : i = 9 ∧ 1 < x ∨ 0 < i ∧ x = 0
    · rw [if_pos h1]; simp
    rw [if_neg h1]
    have hstep : v + x % 128 * 2 ^ (7 * i) < 2 ^ (7 * (i + 1)) := by
      have e2 : 2 ^ (7 * (i + 1)) = 128 * 2 ^ (7 * i) := by rw [show (128 : Nat) = 2 ^ 7 from rfl, ← Nat.pow_add]; congr 1; omega
      have : x % 128 * 2 ^ (7 * i) ≤ 127 * 2 ^ (7 * i) := Nat.mul_le_mul_right _ (by omega)
      omega
    by_cases h2 : x < 128
    · rw [if_pos h2]
      refine ⟨?_, by simp only [List.length_cons]; omega, by simp only; omega⟩
      show v + x % 128 * 2 ^ (7 * i) < 18446744073709551616
      rcases Nat.lt_or_ge i 9 with h3 | h3
      · have : 2 ^ (7 * (i + 1)) ≤ 2 ^ 63 := Nat.pow_le_pow_right (by omega) (by omega)
        omega
      · have h9 : i = 9 := by omega
        subst h9
        simp at hv ⊢
        have : x % 128 ≤ 1 := by omega
        omega
    · rw [if_neg h2]
      have h8 : i ≤ 8 := by omega
      have := tk_bound r (fun n hn => hb n (List.mem_cons_of_mem _ hn)) (i + 1) _ (by omega) hstep
      simp only [List.length_cons]
      exact ⟨this.1, by omega, this.2.2⟩

/-- The number of bytes, the lowest first. -/
def unf : List Nat → Nat
  | [] => 0
  | x :: r => x + 256 * unf r
/-- So many bytes of a number, the lowest first. -/
def fixL (n : Nat) : Nat → List Nat
  | 0 => []
  | k + 1 => n % 256 :: fixL (n / 256) k
theorem fixL_len : ∀ (k n : Nat), (fixL n k).length = k
  | 0, _ => rfl
  | k + 1, n => by simp [fixL, fixL_len k]
theorem fixL_by : ∀ (k n : Nat), By (fixL n k)
  | 0, _ => fun x hx => by simp [fixL] at hx
  | k + 1, n => fun x hx => by
    rcases List.mem_cons.1 hx with rfl | hx
    · omega
    · exact fixL_by k _ x hx
theorem unf_fixL : ∀ (k n : Nat), unf (fixL n k) = n % 256 ^ k
  | 0, n => by simp [fixL, unf, Nat.mod_one]
  | k + 1, n => by
    simp only [fixL, unf]
    rw [unf_fixL k, Nat.pow_succ, Nat.mul_comm (256 ^ k) 256, Nat.mod_mul]
theorem fixL_unf : ∀ (b : List Nat), By b → fixL (unf b) b.length = b
  | [], _ => rfl
  | x :: r, h => by
    have hx := h x (by simp)
    simp only [List.length_cons, fixL, unf]
    rw [show (x + 256 * unf r) % 256 = x by omega, show (x + 256 * unf r) / 256 = unf r by omega, fixL_unf r fun n hn => h n (List.mem_cons_of_mem _ hn)]
theorem unf_lt : ∀ (b : List Nat), By b → unf b < 256 ^ b.length
  | [], _ => by simp [unf]
  | x :: r, h => by
    have hx := h x (by simp)
    have := unf_lt r fun n hn => h n (List.mem_cons_of_mem _ hn)
    simp only [List.length_cons, unf, Nat.pow_succ]; omega
theorem fixL_snoc : ∀ (k n : Nat), fixL n (k + 1) = fixL n k ++ [n / 256 ^ k % 256]
  | 0, n => by simp [fixL]
  | k + 1, n => by
    rw [fixL, fixL_snoc k, fixL, List.cons_append, Nat.pow_succ, Nat.div_div_eq_div_mul, Nat.mul_comm 256]
theorem unf_snoc : ∀ (b : List Nat) (x : Nat), unf (b ++ [x]) = unf b + x * 256 ^ b.length
  | [], x => by simp [unf]
  | y :: r, x => by
    simp only [List.cons_append, unf, unf_snoc r x, List.length_cons, Nat.pow_succ]
    rw [Nat.mul_add, Nat.add_assoc, Nat.mul_left_comm, Nat.mul_comm 256 (256 ^ r.length)]

/-- One bit of the sum. -/
def cs (r : Nat) : Nat := (r / 2) ^^^ (if r % 2 = 1 then 2197175160 else 0)
def csN : Nat → Nat → Nat
  | 0, r => r
  | k + 1, r => cs (csN k r)
def crcF (r : Nat) : List Nat → Nat
  | [] => r
  | x :: b => crcF (csN 8 (r ^^^ x)) b
def crc (b : List Nat) : Nat := 4294967295 ^^^ crcF 4294967295 b

theorem xor_lt32 {a b : Nat} (ha : a < 4294967296) (hb : b < 4294967296) : a ^^^ b < 4294967296 := Nat.xor_lt_two_pow (n := 32) ha hb
theorem cs_lt {r : Nat} (h : r < 4294967296) : cs r < 4294967296 := by
  unfold cs; refine xor_lt32 (by omega) ?_; split <;> omega
theorem csN_lt : ∀ (k : Nat) {r : Nat}, r < 4294967296 → csN k r < 4294967296
  | 0, _, h => h
  | k + 1, _, h => cs_lt (csN_lt k h)
theorem crcF_lt : ∀ (b : List Nat), By b → ∀ {r : Nat}, r < 4294967296 → crcF r b < 4294967296
  | [], _, _, h => h
  | x :: b, hb, _, h => crcF_lt b (fun n hn => hb n (List.mem_cons_of_mem _ hn)) (csN_lt 8 (xor_lt32 h (by have := hb x (by simp); omega)))
theorem crc_lt {b : List Nat} (h : By b) : crc b < 4294967296 := xor_lt32 (by omega) (crcF_lt b h (by omega))
theorem crcF_append : ∀ (a b : List Nat) (r : Nat), crcF r (a ++ b) = crcF (crcF r a) b
  | [], _, _ => rfl
  | _ :: a, b, _ => crcF_append a b _

theorem xorL {a b c : Nat} (h : a ^^^ b = a ^^^ c) : b = c := by
  have := congrArg (a ^^^ ·) h
  simpa [← Nat.xor_assoc] using this
theorem xorR {a b c : Nat} (h : b ^^^ a = c ^^^ a) : b = c := xorL (a := a) (by rw [Nat.xor_comm a, Nat.xor_comm a]; exact h)

theorem cs_xor (a b : Nat) : cs (a ^^^ b) = cs a ^^^ cs b := by
  unfold cs
  have h1 : (a ^^^ b) / 2 = a / 2 ^^^ b / 2 := by
    have := Nat.shiftRight_xor_distrib (a := a) (b := b) (i := 1)
    simpa [Nat.shiftRight_eq_div_pow] using this
  have h2 : (a ^^^ b) % 2 = (a % 2 + b % 2) % 2 := by
    have hx := @Nat.xor_mod_two_eq_one a b
    have hm := Nat.mod_two_eq_zero_or_one (a ^^^ b)
    clear h1
    generalize (a ^^^ b) % 2 = m at hx hm ⊢
    rcases Nat.mod_two_eq_zero_or_one a with ha | ha <;> rcases Nat.mod_two_eq_zero_or_one b with hb | hb <;> rcases hm with rfl | rfl <;> simp_all
  rw [h1, h2]
  rcases Nat.mod_two_eq_zero_or_one a with ha | ha <;> rcases Nat.mod_two_eq_zero_or_one b with hb | hb <;> simp only [ha, hb]
  · simp
  · simp [Nat.xor_assoc]
  · simp only [Nat.zero_ne_one, if_true, if_false, Nat.xor_zero]; ac_rfl
  · simp only [if_true]
    have e : a / 2 ^^^ 2197175160 ^^^ (b / 2 ^^^ 2197175160) = a / 2 ^^^ b / 2 ^^^ (2197175160 ^^^ 2197175160) := by ac_rfl
    rw [e, Nat.xor_self]; simp
theorem csN_xor : ∀ (k a b : Nat), csN k (a ^^^ b) = csN k a ^^^ csN k b
  | 0, _, _ => rfl
  | k + 1, a, b => by rw [csN, csN_xor k, cs_xor]; rfl
theorem cs_inj {a b : Nat} (ha : a < 4294967296) (hb : b < 4294967296) (h : cs a = cs b) : a = b := by
  have key : ∀ {x : Nat}, x < 4294967296 → (cs x).testBit 31 = decide (x % 2 = 1) := by
    intro x hx
    unfold cs
    rw [Nat.testBit_xor, Nat.testBit_lt_two_pow (x := x / 2) (i := 31) (by omega)]
    by_cases h1 : x % 2 = 1
    · rw [if_pos h1, decide_eq_true h1]; decide
    · rw [if_neg h1, decide_eq_false h1]; decide
  have hm : a % 2 = b % 2 := by
    have h1 := key ha; have h2 := key hb
    rw [h, h2] at h1
    have := decide_eq_decide.1 h1
    omega
  unfold cs at h
  rw [hm] at h
  have hd := xorR h
  omega
theorem csN_inj : ∀ (k : Nat) {a b : Nat}, a < 4294967296 → b < 4294967296 → csN k a = csN k b → a = b
  | 0, _, _, _, _, h => h
  | k + 1, _, _, ha, hb, h => csN_inj k ha hb (cs_inj (csN_lt k ha) (csN_lt k hb) h)
theorem crcF_inj : ∀ (b : List Nat), By b → ∀ {r s : Nat}, r < 4294967296 → s < 4294967296 → crcF r b = crcF s b → r = s
  | [], _, _, _, _, _, h => h
  | x :: b, hb, r, s, hr, hs, h => by
    have hx : x < 4294967296 := by have := hb x (by simp); omega
    have h1 := crcF_inj b (fun n hn => hb n (List.mem_cons_of_mem _ hn)) (csN_lt 8 (xor_lt32 hr hx)) (csN_lt 8 (xor_lt32 hs hx)) h
    exact xorR (csN_inj 8 (xor_lt32 hr hx) (xor_lt32 hs hx) h1)
/-- A changed byte changes the sum. -/
theorem crc_change {a : List Nat} {x y : Nat} {b : List Nat} (ha : By a) (hx : x < 256) (hy : y < 256) (hb : By b) (hne : x ≠ y) : crc (a ++ x :: b) ≠ crc (a ++ y :: b) := by
  intro h
  unfold crc at h
  have h1 := xorL h
  rw [crcF_append, crcF_append, crcF, crcF] at h1
  have hr : crcF 4294967295 a < 4294967296 := crcF_lt a ha (by omega)
  have h2 := crcF_inj b hb (csN_lt 8 (xor_lt32 hr (by omega))) (csN_lt 8 (xor_lt32 hr (by omega))) h1
  exact hne (xorL (csN_inj 8 (xor_lt32 hr (by omega)) (xor_lt32 hr (by omega)) h2))

/-- Three rows of bytes laid over one another. -/
def x3 : List Nat → List Nat → List Nat → List Nat
  | a :: az, b :: bs, c :: cs => (a ^^^ b ^^^ c) :: x3 az bs cs
  | _, _, _ => []
theorem crcF_x3 : ∀ (a b c : List Nat) (r s t : Nat), a.length = b.length → b.length = c.length → crcF (r ^^^ s ^^^ t) (x3 a b c) = crcF r a ^^^ crcF s b ^^^ crcF t c
  | [], [], [], _, _, _, _, _ => rfl
  | x :: a, y :: b, z :: c, r, s, t, h1, h2 => by
    simp only [x3, crcF]
    rw [show r ^^^ s ^^^ t ^^^ (x ^^^ y ^^^ z) = (r ^^^ x) ^^^ (s ^^^ y) ^^^ (t ^^^ z) from by ac_rfl, csN_xor, csN_xor]
    exact crcF_x3 a b c _ _ _ (by simpa using h1) (by simpa using h2)
  | [], [], _ :: _, _, _, _, _, h2 => by simp at h2
  | [], _ :: _, _, _, _, _, h1, _ => by simp at h1
  | _ :: _, [], _, _, _, _, h1, _ => by simp at h1
  | _ :: _, _ :: _, [], _, _, _, _, h2 => by simp at h2
theorem crc_x3 {a b c : List Nat} (h1 : a.length = b.length) (h2 : b.length = c.length) : crc (x3 a b c) = crc a ^^^ crc b ^^^ crc c := by
  unfold crc
  have h := crcF_x3 a b c 4294967295 4294967295 4294967295 h1 h2
  rw [Nat.xor_self, Nat.zero_xor] at h
  rw [h]
  have e : 4294967295 ^^^ crcF 4294967295 a ^^^ (4294967295 ^^^ crcF 4294967295 b) ^^^ (4294967295 ^^^ crcF 4294967295 c) = (4294967295 ^^^ 4294967295) ^^^ 4294967295 ^^^ (crcF 4294967295 a ^^^ crcF 4294967295 b ^^^ crcF 4294967295 c) := by ac_rfl
  rw [e, Nat.xor_self, Nat.zero_xor]
end Go.Proofs.YtegbngbhmgbocaaGreatDoor
namespace Go.Proofs.YtegbngbhmgbocaaGreatDoor

/-- How many bytes 0 come ahead of a fragment that stands behind so many bytes. -/
def zr (t : Nat) : Nat := if 64 - t % 64 < 7 then 64 - t % 64 else 0
/-- The room that its block has for it. -/
def lf (t : Nat) : Nat := if 64 - t % 64 < 7 then 64 else 64 - t % 64
theorem lf_ge (t : Nat) : 7 ≤ lf t := by unfold lf; split <;> omega
theorem lf_le (t : Nat) : lf t ≤ 64 := by unfold lf; split <;> omega
theorem zr_le (t : Nat) : zr t ≤ 6 := by unfold zr; split <;> omega
theorem zr_lf (t : Nat) : (t + zr t + lf t) % 64 = 0 := by unfold zr lf; split <;> omega
theorem zr_0 {t : Nat} (h : t % 64 = 0) : zr t = 0 := by unfold zr; rw [if_neg (by omega)]
theorem lf_0 {t : Nat} (h : t % 64 = 0) : lf t = 64 := by unfold lf; rw [if_neg (by omega)]; omega
theorem zr_mod (t : Nat) : zr (t % 64) = zr t := by unfold zr; rw [Nat.mod_mod]
theorem lf_mod (t : Nat) : lf (t % 64) = lf t := by unfold lf; rw [Nat.mod_mod]

/-- A fragment. -/
def fragL (k : Nat) (d : List Nat) : List Nat := fixL (crc (k :: d)) 4 ++ ([d.length % 256, d.length / 256, k] ++ d)
theorem fragL_len (k : Nat) (d : List Nat) : (fragL k d).length = 7 + d.length := by simp [fragL, fixL_len]; omega
/-- A fragment's kind: has the record begun, does it end? -/
def kd (bg en : Bool) : Nat := if bg then (if en then 4 else 3) else (if en then 1 else 2)
theorem kd_lt (bg en : Bool) : kd bg en < 256 := by cases bg <;> cases en <;> decide
theorem kd_ne (bg : Bool) : kd bg false ≠ kd bg true := by cases bg <;> decide
theorem fragL_by {k : Nat} {d : List Nat} (hk : k < 256) (hd : By d) (hl : d.length < 65536) : By (fragL k d) := by
  refine (fixL_by 4 _).append (By.append ?_ hd)
  intro x hx
  simp at hx
  omega
/-- A record's fragments. -/
def frs : Nat → Bool → Nat → List Nat → List Nat
  | 0, _, _, _ => []
  | f + 1, bg, l, r => if r.length ≤ l - 7 then fragL (kd bg true) r else fragL (kd bg false) (r.take (l - 7)) ++ frs f true 64 (r.drop (l - 7))
/-- The bytes of a record behind so many bytes. -/
def appL (t : Nat) (r : List Nat) : List Nat := List.replicate (zr t) 0 ++ frs (r.length + 2) false (lf t) r

theorem frs_fuel : ∀ (f g : Nat) (r : List Nat), r.length < f → r.length < g → frs f true 64 r = frs g true 64 r
  | 0, _, _, h, _ => by omega
  | _ + 1, 0, _, _, h => by omega
  | f + 1, g + 1, r, h1, h2 => by
    unfold frs
    by_cases h : r.length ≤ 64 - 7
    · rw [if_pos h, if_pos h]
    · rw [if_neg h, if_neg h, frs_fuel f g _ (by rw [List.length_drop]; omega) (by rw [List.length_drop]; omega)]
/-- So many fragments. -/
def nfr (l n : Nat) : Nat := 1 + ((n - (l - 7)) + 56) / 57
theorem frs_len : ∀ (f : Nat) (bg : Bool) (l : Nat) (r : List Nat), r.length + (if l = 7 then 1 else 0) < f → 7 ≤ l → (frs f bg l r).length = nfr l r.length * 7 + r.length
  | 0, _, _, _, h, _ => by omega
  | f + 1, bg, l, r, h, hl => by
    unfold frs
    by_cases h1 : r.length ≤ l - 7
    · rw [if_pos h1, fragL_len]; unfold nfr; omega
    · rw [if_neg h1, List.length_append, fragL_len, frs_len f true 64 _ (by rw [List.length_drop]; split at h <;> simp <;> omega) (by omega), List.length_take, List.length_drop]
      unfold nfr
      omega
theorem appL_len (t : Nat) (r : List Nat) : (appL t r).length = zr t + (nfr (lf t) r.length * 7 + r.length) := by
  unfold appL
  rw [List.length_append, List.length_replicate, frs_len _ _ _ _ (by split <;> omega) (lf_ge t)]
theorem frs_by : ∀ (f : Nat) (bg : Bool) (l : Nat) (r : List Nat), l ≤ 64 → By r → By (frs f bg l r)
  | 0, _, _, _, _, _ => fun x hx => by simp [frs] at hx
  | f + 1, bg, l, r, hl, hr => by
    unfold frs
    split
    · exact fragL_by (kd_lt _ _) hr (by omega)
    · exact (fragL_by (kd_lt _ _) (hr.take _) (by rw [List.length_take]; omega)).append (frs_by f true 64 _ (by omega) (hr.drop _))
theorem appL_by {t : Nat} {r : List Nat} (hr : By r) : By (appL t r) :=
  By.append (fun x hx => by rw [List.mem_replicate] at hx; omega) (frs_by _ _ _ _ (lf_le t) hr)
theorem appL_mod (t : Nat) (r : List Nat) : appL (t % 64) r = appL t r := by unfold appL; rw [zr_mod, lf_mod]
theorem appL_pos (t : Nat) (r : List Nat) : 7 ≤ (appL t r).length := by rw [appL_len]; unfold nfr; omega

/-- The fragment that comes behind so many bytes. -/
def fnd (b : List Nat) (t : Nat) : Option (Nat × List Nat × Nat) :=
  if t + zr t + 7 ≤ b.length ∧ (∀ x ∈ (b.drop t).take (zr t), x = 0) ∧ 7 + (b.getD (t + zr t + 4) 0 + 256 * b.getD (t + zr t + 5) 0) ≤ lf t ∧ t + zr t + 7 + (b.getD (t + zr t + 4) 0 + 256 * b.getD (t + zr t + 5) 0) ≤ b.length ∧
      crc ((b.drop (t + zr t + 6)).take (1 + (b.getD (t + zr t + 4) 0 + 256 * b.getD (t + zr t + 5) 0))) = unf ((b.drop (t + zr t)).take 4) then
    some (b.getD (t + zr t + 6) 0, (b.drop (t + zr t + 7)).take (b.getD (t + zr t + 4) 0 + 256 * b.getD (t + zr t + 5) 0), t + zr t + 7 + (b.getD (t + zr t + 4) 0 + 256 * b.getD (t + zr t + 5) 0)) else none

/-- What a fragment that was found is. -/
theorem fnd_some {b : List Nat} {t k e : Nat} {d : List Nat} (h : fnd b t = some (k, d, e)) : ∃ s n, s = t + zr t ∧ n = b.getD (s + 4) 0 + 256 * b.getD (s + 5) 0 ∧ s + 7 ≤ b.length ∧ (∀ x ∈ (b.drop t).take (zr t), x = 0) ∧ 7 + n ≤ lf t ∧ e = s + 7 + n ∧ e ≤ b.length ∧ crc ((b.drop (s + 6)).take (1 + n)) = unf ((b.drop s).take 4) ∧ k = b.getD (s + 6) 0 ∧ d = (b.drop (s + 7)).take n := by
  unfold fnd at h
  split at h
  · rename_i c
    simp only [Option.some.injEq, Prod.mk.injEq] at h
    obtain ⟨c1, c2, c3, c4, c5⟩ := c
    exact ⟨_, _, rfl, rfl, c1, c2, c3, h.2.2.symm, by omega, c5, h.1.symm, h.2.1.symm⟩
  · cases h
theorem fnd_mk {b : List Nat} {t s n : Nat} (hs : s = t + zr t) (hn : n = b.getD (s + 4) 0 + 256 * b.getD (s + 5) 0) (c1 : s + 7 ≤ b.length) (c2 : ∀ x ∈ (b.drop t).take (zr t), x = 0) (c3 : 7 + n ≤ lf t) (c4 : s + 7 + n ≤ b.length) (c5 : crc ((b.drop (s + 6)).take (1 + n)) = unf ((b.drop s).take 4)) :
    fnd b t = some (b.getD (s + 6) 0, (b.drop (s + 7)).take n, s + 7 + n) := by
  subst hs hn
  unfold fnd
  rw [if_pos ⟨c1, c2, c3, c4, c5⟩]
theorem fnd_end {b : List Nat} {t k e : Nat} {d : List Nat} (h : fnd b t = some (k, d, e)) : t + 7 ≤ e ∧ e ≤ b.length ∧ d.length + t ≤ e ∧ e ≤ t + 70 := by
  obtain ⟨s, n, h1, h2, h3, h4, h5, h6, h7, h8, h9, h10⟩ := fnd_some h
  have := zr_le t
  have := lf_le t
  refine ⟨by omega, h7, ?_, by omega⟩
  rw [h10, List.length_take]; omega
theorem fnd_none {b : List Nat} {t : Nat} (h : b.length < t + 7) : fnd b t = none := by
  unfold fnd
  rw [if_neg (by omega)]

theorem getD_drop (b : List Nat) (s j : Nat) : b.getD (s + j) 0 = (b.drop s).getD j 0 := by
  simp [List.getD, List.getElem?_drop]
/-- A fragment that was laid down is found. -/
theorem fnd_frag {b : List Nat} {t k : Nat} {d rest : List Nat} (h : b.drop t = List.replicate (zr t) 0 ++ (fragL k d ++ rest)) (hk : k < 256) (hd : By d) (hl : 7 + d.length ≤ lf t) : fnd b t = some (k, d, t + zr t + 7 + d.length) := by
  have hlf := lf_le t
  have hB : b.drop (t + zr t) = fragL k d ++ rest := by
    rw [← List.drop_drop, h, List.drop_left' (by simp)]
  have hlen : b.length = t + zr t + 7 + d.length + rest.length := by
    have h1 := congrArg List.length h
    rw [List.length_append, List.length_append, List.length_drop, fragL_len, List.length_replicate] at h1
    omega
  have hcl : crc (k :: d) < 4294967296 := crc_lt (fun x hx => by rcases List.mem_cons.1 hx with rfl | hx; exact hk; exact hd x hx)
  have hu : unf (fixL (crc (k :: d)) 4) = crc (k :: d) := by rw [unf_fixL]; exact Nat.mod_eq_of_lt hcl
  obtain ⟨c, hc⟩ : ∃ c, c = crc (k :: d) := ⟨_, rfl⟩
  have hF : fragL k d ++ rest = c % 256 :: c / 256 % 256 :: c / 256 / 256 % 256 :: c / 256 / 256 / 256 % 256 :: d.length % 256 :: d.length / 256 :: k :: (d ++ rest) := by
    rw [hc]; simp [fragL, fixL]
  have hu4 : unf [c % 256, c / 256 % 256, c / 256 / 256 % 256, c / 256 / 256 / 256 % 256] = c := by rw [hc]; exact hu
  rw [hF] at hB
  have g4 : b.getD (t + zr t + 4) 0 = d.length := by rw [getD_drop, hB]; simp; omega
  have g5 : b.getD (t + zr t + 5) 0 = 0 := by rw [getD_drop, hB]; simp; omega
  have g6 : b.getD (t + zr t + 6) 0 = k := by rw [getD_drop, hB]; simp
  have d6 : b.drop (t + zr t + 6) = k :: (d ++ rest) := by rw [← List.drop_drop, hB]; rfl
  have d7 : b.drop (t + zr t + 7) = d ++ rest := by rw [← List.drop_drop, hB]; rfl
  have hn : d.length = b.getD (t + zr t + 4) 0 + 256 * b.getD (t + zr t + 5) 0 := by rw [g4, g5]; omega
  rw [fnd_mk (n := d.length) rfl hn (by omega) ?_ hl (by omega) ?_, g6, d7, List.take_left' rfl]
  · rw [h, List.take_left' (by simp)]
    intro x hx
    exact (List.mem_replicate.1 hx).2
  · rw [d6, hB]
    show crc ((k :: (d ++ rest)).take (1 + d.length)) = unf _
    rw [Nat.add_comm, List.take_succ_cons, List.take_left' rfl]
    show _ = unf [c % 256, c / 256 % 256, c / 256 / 256 % 256, c / 256 / 256 / 256 % 256]
    rw [hu4, hc]

/-- Only the bytes up to its end matter. -/
theorem sub_agree {b b' : List Nat} {e : Nat} (h : b'.take e = b.take e) {x y : Nat} (hxy : x + y ≤ e) : (b'.drop x).take y = (b.drop x).take y := by
  have e1 : ∀ c : List Nat, (c.drop x).take y = ((c.take e).drop x).take y := fun c => by
    rw [List.drop_take, List.take_take, Nat.min_eq_left (by omega)]
  rw [e1 b', e1 b, h]
theorem getD_agree {b b' : List Nat} {e : Nat} (h : b'.take e = b.take e) {x : Nat} (hx : x < e) : b'.getD x 0 = b.getD x 0 := by
  have e1 : ∀ c : List Nat, c.getD x 0 = (c.take e).getD x 0 := fun c => by
    simp [List.getD, hx]
  rw [e1 b', e1 b, h]
theorem fnd_agree {b b' : List Nat} {t k e : Nat} {d : List Nat} (h : fnd b t = some (k, d, e)) (ha : b'.take e = b.take e) (hl : e ≤ b'.length) : fnd b' t = some (k, d, e) := by
  obtain ⟨s, n, h1, h2, h3, h4, h5, h6, h7, h8, h9, h10⟩ := fnd_some h
  have hz := zr_le t
  rw [fnd_mk (b := b') h1 (n := n) (by rw [getD_agree ha (by omega), getD_agree ha (by omega)]; exact h2) (by omega) (by rw [sub_agree ha (by omega)]; exact h4) h5 (by omega) (by rw [sub_agree ha (by omega), sub_agree ha (by omega)]; exact h8),
    getD_agree ha (by omega), sub_agree ha (by omega), ← h9, ← h10, ← h6]
theorem fnd_cut {b : List Nat} {t k e c : Nat} {d : List Nat} (h : fnd b t = some (k, d, e)) (hc : c < e) : fnd (b.take c) t = none := by
  obtain ⟨s, n, h1, h2, h3, h4, h5, h6, h7, h8, h9, h10⟩ := fnd_some h
  have hlen : (b.take c).length = c := by rw [List.length_take]; omega
  rcases hr : fnd (b.take c) t with _ | ⟨k', d', e'⟩
  · rfl
  · exfalso
    obtain ⟨s', n', h1', h2', h3', h4', h5', h6', h7', -⟩ := fnd_some hr
    have hss : s' = s := by omega
    subst hss
    rw [hlen] at h3' h7'
    have ha : (b.take c).take c = b.take c := by rw [List.take_take, Nat.min_self]
    rw [getD_agree ha (by omega), getD_agree ha (by omega), ← h2] at h2'
    omega
theorem unf_inj {a b : List Nat} (ha : By a) (hb : By b) (hl : a.length = b.length) (h : unf a = unf b) : a = b := by
  rw [← fixL_unf a ha, ← fixL_unf b hb, h, hl]
theorem By.set {b : List Nat} (h : By b) {p y : Nat} (hy : y < 256) : By (b.set p y) := fun x hx => by
  rcases List.mem_or_eq_of_mem_set hx with h1 | h1
  · exact h x h1
  · omega
theorem set_take_ne {b : List Nat} {p y x n : Nat} (h : p < x ∨ x + n ≤ p) : ((b.set p y).drop x).take n = (b.drop x).take n := by
  apply List.ext_getElem?
  intro i
  rw [List.getElem?_take, List.getElem?_take]
  split
  · rw [List.getElem?_drop, List.getElem?_drop, List.getElem?_set_ne (by omega)]
  · rfl
theorem set_take_in {b : List Nat} {p y x n : Nat} (h1 : x ≤ p) : ((b.set p y).drop x).take n = ((b.drop x).take n).set (p - x) y := by
  rw [List.drop_set, if_neg (by omega), List.take_set]
theorem getD_set_ne {b : List Nat} {p y x : Nat} (h : p ≠ x) : (b.set p y).getD x 0 = b.getD x 0 := by
  simp [List.getD, List.getElem?_set_ne h]
theorem set_ne {a : List Nat} {q x y : Nat} (hq : a[q]? = some x) (h : y ≠ x) : a.set q y ≠ a := by
  intro e
  have h1 : (a.set q y)[q]? = some y := by rw [List.getElem?_set_self (List.getElem?_eq_some_iff.1 hq).1]
  rw [e, hq] at h1
  simp at h1
  omega
theorem split_set {a : List Nat} {q x y : Nat} (hq : a[q]? = some x) : a = a.take q ++ x :: a.drop (q + 1) ∧ a.set q y = a.take q ++ y :: a.drop (q + 1) := by
  have hl := (List.getElem?_eq_some_iff.1 hq).1
  have hx := (List.getElem?_eq_some_iff.1 hq).2
  refine ⟨?_, ?_⟩
  · rw [← hx, ← List.drop_eq_getElem_cons hl, List.take_append_drop]
  · rw [List.set_eq_take_append_cons_drop, if_pos hl]
/-- With a byte changed that isn't one of its length's a fragment isn't found. -/
theorem fnd_hurt {b : List Nat} {t k e p x y : Nat} {d : List Nat} (h : fnd b t = some (k, d, e)) (hb : By b) (hp1 : t ≤ p) (hp2 : p < e) (hx : b[p]? = some x) (hxy : y ≠ x) (hy : y < 256) (h4' : p ≠ t + zr t + 4) (h5' : p ≠ t + zr t + 5) : fnd (b.set p y) t = none := by
  obtain ⟨s, n, h1, h2, h3, h4, h5, h6, h7, h8, h9, h10⟩ := fnd_some h
  rw [← h1] at h4' h5'
  rcases hr : fnd (b.set p y) t with _ | ⟨k', d', e'⟩
  · rfl
  · exfalso
    obtain ⟨s', n', g1, g2, g3, g4, g5, g6, g7, g8, -, -⟩ := fnd_some hr
    have hss : s' = s := by omega
    subst hss
    rw [getD_set_ne h4', getD_set_ne h5', ← h2] at g2
    subst g2
    rcases (show p < s' ∨ (s' ≤ p ∧ p < s' + 4) ∨ s' + 6 ≤ p from by omega) with q | q | q
    · rw [set_take_in hp1] at g4
      have hm : ((b.drop t).take (zr t))[p - t]? = some x := by
        rw [List.getElem?_take, if_pos (by omega), List.getElem?_drop, show t + (p - t) = p from by omega]; exact hx
      have hx0 := h4 x (List.mem_of_getElem? hm)
      have hy0 := g4 y (List.mem_of_getElem? (i := p - t) (by rw [List.getElem?_set_self (List.getElem?_eq_some_iff.1 hm).1]))
      omega
    · rw [set_take_ne (.inl (by omega)), set_take_in q.1, h8] at g8
      have hm : ((b.drop s').take 4)[p - s']? = some x := by
        rw [List.getElem?_take, if_pos (by omega), List.getElem?_drop, show s' + (p - s') = p from by omega]; exact hx
      exact set_ne hm hxy (unf_inj (((hb.drop _).take _).set hy) ((hb.drop _).take _) (by simp) g8.symm)
    · rw [set_take_in (by omega), set_take_ne (.inr (by omega)), ← h8] at g8
      have hm : ((b.drop (s' + 6)).take (1 + n'))[p - (s' + 6)]? = some x := by
        rw [List.getElem?_take, if_pos (by omega), List.getElem?_drop, show s' + 6 + (p - (s' + 6)) = p from by omega]; exact hx
      obtain ⟨e1, e2⟩ := split_set (y := y) hm
      have hB := (hb.drop (s' + 6)).take (1 + n')
      rw [e2] at g8
      generalize (b.drop (s' + 6)).take (1 + n') = a at *
      exact crc_change (hB.take _) hy (hb.at hx) (hB.drop _) hxy (by rw [← e1]; exact g8)
end Go.Proofs.YtegbngbhmgbocaaGreatDoor
