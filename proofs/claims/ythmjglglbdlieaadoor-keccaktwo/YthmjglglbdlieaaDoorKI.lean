/-
  Keccak's permutation is one to one: each step of a round is.
-/
import Derived.Test.YthmjglglbdlieaaDoorKN
namespace Go.Proofs.YthmjglglbdlieaaDoor

theorem xor_dbl {g : Nat → Bool} {a b : Nat} (h : ∀ i, g i = (g (i + a) ^^ g (i + b))) : ∀ i, g i = (g (i + 2 * a) ^^ g (i + 2 * b)) := by
  intro i
  have h1 := h i
  have h2 := h (i + a)
  have h3 := h (i + b)
  rw [show i + a + a = i + 2 * a by omega] at h2
  rw [show i + b + a = i + a + b by omega, show i + b + b = i + 2 * b by omega] at h3
  rw [h1, h2, h3]
  cases g (i + 2 * a) <;> cases g (i + a + b) <;> cases g (i + 2 * b) <;> rfl
theorem per_zero {g : Nat → Bool} (hp : ∀ j, g (j + 64) = g j) (h : ∀ j, g j = (g (j + 3) ^^ g (j + 4))) : ∀ j, g j = false := by
  have h6 := xor_dbl (xor_dbl (xor_dbl (xor_dbl (xor_dbl (xor_dbl h)))))
  intro j
  rw [h6 j, show j + 2 * (2 * (2 * (2 * (2 * (2 * 3))))) = j + 64 + 64 + 64 by omega, show j + 2 * (2 * (2 * (2 * (2 * (2 * 4))))) = j + 64 + 64 + 64 + 64 by omega]
  simp only [hp, Bool.xor_self]
theorem lin_zero {c0 c1 c2 c3 c4 : Nat → Bool} (hp : ∀ j, c0 (j + 64) = c0 j)
    (h1 : ∀ j, c1 j = (c0 (j + 1) ^^ c4 (j + 1))) (h2 : ∀ j, c2 j = (c1 (j + 1) ^^ c0 (j + 1))) (h3 : ∀ j, c3 j = (c2 (j + 1) ^^ c1 (j + 1)))
    (h4 : ∀ j, c4 j = (c3 (j + 1) ^^ c2 (j + 1))) (h0 : ∀ j, c0 j = (c4 (j + 1) ^^ c3 (j + 1))) : ∀ j, c0 j = false := by
  have A : ∀ j, (c4 j ^^ c4 (j + 4)) = (c0 (j + 4) ^^ c0 (j + 3) ^^ c0 (j + 2)) := by
    intro j
    have e1 := h4 j; have e2 := h3 (j + 1); have e3 := h2 (j + 1); have e4 := h2 (j + 2); have e5 := h1 (j + 3)
    simp only [Nat.add_assoc, Nat.reduceAdd] at e1 e2 e3 e4 e5
    rw [e1, e2, e3, e4, e5]
    cases c0 (j + 4) <;> cases c4 (j + 4) <;> cases c0 (j + 3) <;> cases c0 (j + 2) <;> cases c1 (j + 2) <;> rfl
  have B : ∀ j, (c0 j ^^ c0 (j + 4)) = (c4 (j + 1) ^^ c4 (j + 3) ^^ c4 (j + 4)) := by
    intro j
    have e1 := h0 j; have e2 := h3 (j + 1); have e3 := h2 (j + 2); have e4 := h1 (j + 2); have e5 := h1 (j + 3)
    simp only [Nat.add_assoc, Nat.reduceAdd] at e1 e2 e3 e4 e5
    rw [e1, e2, e3, e4, e5]
    cases c0 (j + 4) <;> cases c4 (j + 4) <;> cases c0 (j + 3) <;> cases c4 (j + 3) <;> cases c4 (j + 1) <;> rfl
  refine per_zero hp fun j => ?_
  have b0 := B j; have b4 := B (j + 4); have a1 := A (j + 1); have a3 := A (j + 3); have a4 := A (j + 4)
  simp only [Nat.add_assoc, Nat.reduceAdd] at b0 b4 a1 a3 a4
  clear A B hp h0 h1 h2 h3 h4
  revert b0 b4 a1 a3 a4
  generalize c0 j = x0; generalize c0 (j + 3) = x3; generalize c0 (j + 4) = x4; generalize c0 (j + 5) = x5; generalize c0 (j + 6) = x6; generalize c0 (j + 7) = x7; generalize c0 (j + 8) = x8
  generalize c4 (j + 1) = y1; generalize c4 (j + 3) = y3; generalize c4 (j + 4) = y4; generalize c4 (j + 5) = y5; generalize c4 (j + 7) = y7; generalize c4 (j + 8) = y8
  intro b0 b4 a1 a3 a4
  have q0 : x0 = (x4 ^^ (y1 ^^ y3 ^^ y4)) := by rw [← b0]; cases x0 <;> cases x4 <;> rfl
  have q1 : y1 = (y5 ^^ (x5 ^^ x4 ^^ x3)) := by rw [← a1]; cases y1 <;> cases y5 <;> rfl
  have q3 : y3 = (y7 ^^ (x7 ^^ x6 ^^ x5)) := by rw [← a3]; cases y3 <;> cases y7 <;> rfl
  have q4 : y4 = (y8 ^^ (x8 ^^ x7 ^^ x6)) := by rw [← a4]; cases y4 <;> cases y8 <;> rfl
  have q8 : x4 = (x8 ^^ (y5 ^^ y7 ^^ y8)) := by rw [← b4]; cases x4 <;> cases x8 <;> rfl
  clear b0 b4 a1 a3 a4
  subst q0 q1 q3 q4
  subst q8
  cases x3 <;> cases x5 <;> cases x6 <;> cases x7 <;> cases x8 <;> cases y5 <;> cases y7 <;> cases y8 <;> rfl

theorem rotl_bit (x : BitVec 64) (k i : Nat) : (x.rotateLeft k).getLsbD i = if i < k % 64 then x.getLsbD (64 - k % 64 + i) else (decide (i < 64) && x.getLsbD (i - k % 64)) := by
  rw [BitVec.getLsbD_rotateLeft, Bool.cond_decide]
/-- A lane's bits, round and round. -/
def fb (x : BitVec 64) (j : Nat) : Bool := x.getLsbD (j % 64)
theorem fb_per (x : BitVec 64) (j : Nat) : fb x (j + 64) = fb x j := by unfold fb; rw [Nat.add_mod_right]
theorem fb_xor (x y : BitVec 64) (j : Nat) : fb (x ^^^ y) j = (fb x j ^^ fb y j) := by simp [fb]
theorem fb_rot (x : BitVec 64) (j : Nat) : fb (x.rotateLeft 1) (j + 1) = fb x j := by
  unfold fb
  rw [rotl_bit]
  have h := Nat.mod_lt j (show 0 < 64 by omega)
  by_cases hj : (j + 1) % 64 = 0
  · rw [if_pos (by omega)]; congr 1; omega
  · rw [if_neg (by omega)]
    have : (j + 1) % 64 < 64 := Nat.mod_lt _ (by omega)
    simp only [this, decide_true, Bool.true_and]
    congr 1; omega
theorem fb_ext {x y : BitVec 64} (h : ∀ j, fb x j = fb y j) : x = y := by
  apply BitVec.eq_of_getLsbD_eq
  intro i hi
  have := h i
  unfold fb at this
  rwa [Nat.mod_eq_of_lt hi] at this

theorem theta_inj {f g : Nat → BitVec 64} (h : ∀ i, i < 25 → theta f i = theta g i) : ∀ i, i < 25 → f i = g i := by
  -- d: where they part
  have hd : ∀ i, i < 25 → ∀ j, (fb (f i) j ^^ fb (g i) j) = (fb (both f (i % 5)) j ^^ fb (both g (i % 5)) j) := by
    intro i hi j
    have := congrArg (fun x => fb x j) (h i hi)
    simp only [theta, fb_xor] at this
    revert this
    cases fb (f i) j <;> cases fb (g i) j <;> cases fb (both f (i % 5)) j <;> cases fb (both g (i % 5)) j <;> simp
  have hc : ∀ x, x < 5 → ∀ j, (fb (col f x) j ^^ fb (col g x) j) = (fb (both f x) j ^^ fb (both g x) j) := by
    intro x hx j
    have e0 := hd x (by omega) j; have e1 := hd (x + 5) (by omega) j; have e2 := hd (x + 10) (by omega) j; have e3 := hd (x + 15) (by omega) j; have e4 := hd (x + 20) (by omega) j
    have m0 : x % 5 = x := by omega
    have m1 : (x + 5) % 5 = x := by omega
    have m2 : (x + 10) % 5 = x := by omega
    have m3 : (x + 15) % 5 = x := by omega
    have m4 : (x + 20) % 5 = x := by omega
    rw [m0] at e0; rw [m1] at e1; rw [m2] at e2; rw [m3] at e3; rw [m4] at e4
    simp only [col, fb_xor]
    revert e0 e1 e2 e3 e4
    generalize (fb (both f x) j ^^ fb (both g x) j) = r
    generalize fb (f x) j = p0; generalize fb (f (x + 5)) j = p1; generalize fb (f (x + 10)) j = p2; generalize fb (f (x + 15)) j = p3; generalize fb (f (x + 20)) j = p4
    generalize fb (g x) j = s0; generalize fb (g (x + 5)) j = s1; generalize fb (g (x + 10)) j = s2; generalize fb (g (x + 15)) j = s3; generalize fb (g (x + 20)) j = s4
    intro e0 e1 e2 e3 e4
    have q0 : p0 = (r ^^ s0) := by rw [← e0]; cases p0 <;> cases s0 <;> rfl
    have q1 : p1 = (r ^^ s1) := by rw [← e1]; cases p1 <;> cases s1 <;> rfl
    have q2 : p2 = (r ^^ s2) := by rw [← e2]; cases p2 <;> cases s2 <;> rfl
    have q3 : p3 = (r ^^ s3) := by rw [← e3]; cases p3 <;> cases s3 <;> rfl
    have q4 : p4 = (r ^^ s4) := by rw [← e4]; cases p4 <;> cases s4 <;> rfl
    clear e0 e1 e2 e3 e4
    subst q0 q1 q2 q3 q4
    cases r <;> cases s0 <;> cases s1 <;> cases s2 <;> cases s3 <;> cases s4 <;> rfl
  have hb : ∀ x j, (fb (both f x) (j + 1) ^^ fb (both g x) (j + 1)) = ((fb (col f ((x + 4) % 5)) (j + 1) ^^ fb (col g ((x + 4) % 5)) (j + 1)) ^^ (fb (col f ((x + 1) % 5)) j ^^ fb (col g ((x + 1) % 5)) j)) := by
    intro x j
    simp only [both, fb_xor, fb_rot]
    cases fb (col f ((x + 4) % 5)) (j + 1) <;> cases fb (col g ((x + 4) % 5)) (j + 1) <;> cases fb (col f ((x + 1) % 5)) j <;> cases fb (col g ((x + 1) % 5)) j <;> rfl
  have step : ∀ x, x < 5 → ∀ j, (fb (col f ((x + 1) % 5)) j ^^ fb (col g ((x + 1) % 5)) j) = ((fb (col f x) (j + 1) ^^ fb (col g x) (j + 1)) ^^ (fb (col f ((x + 4) % 5)) (j + 1) ^^ fb (col g ((x + 4) % 5)) (j + 1))) := by
    intro x hx j
    have e := hc x hx (j + 1)
    rw [hb x j] at e
    rw [e]
    cases (fb (col f ((x + 4) % 5)) (j + 1) ^^ fb (col g ((x + 4) % 5)) (j + 1)) <;> cases (fb (col f ((x + 1) % 5)) j ^^ fb (col g ((x + 1) % 5)) j) <;> rfl
  have s0 := step 0 (by omega); have s1 := step 1 (by omega); have s2 := step 2 (by omega); have s3 := step 3 (by omega); have s4 := step 4 (by omega)
  simp only [Nat.reduceAdd, Nat.reduceMod] at s0 s1 s2 s3 s4
  have per : ∀ x j, (fb (col f x) (j + 64) ^^ fb (col g x) (j + 64)) = (fb (col f x) j ^^ fb (col g x) j) := fun x j => by rw [fb_per, fb_per]
  have z0 := lin_zero (c0 := fun j => fb (col f 0) j ^^ fb (col g 0) j) (c1 := fun j => fb (col f 1) j ^^ fb (col g 1) j) (c2 := fun j => fb (col f 2) j ^^ fb (col g 2) j) (c3 := fun j => fb (col f 3) j ^^ fb (col g 3) j) (c4 := fun j => fb (col f 4) j ^^ fb (col g 4) j) (per 0) s0 s1 s2 s3 s4
  have z1 := lin_zero (c0 := fun j => fb (col f 1) j ^^ fb (col g 1) j) (c1 := fun j => fb (col f 2) j ^^ fb (col g 2) j) (c2 := fun j => fb (col f 3) j ^^ fb (col g 3) j) (c3 := fun j => fb (col f 4) j ^^ fb (col g 4) j) (c4 := fun j => fb (col f 0) j ^^ fb (col g 0) j) (per 1) s1 s2 s3 s4 s0
  have z2 := lin_zero (c0 := fun j => fb (col f 2) j ^^ fb (col g 2) j) (c1 := fun j => fb (col f 3) j ^^ fb (col g 3) j) (c2 := fun j => fb (col f 4) j ^^ fb (col g 4) j) (c3 := fun j => fb (col f 0) j ^^ fb (col g 0) j) (c4 := fun j => fb (col f 1) j ^^ fb (col g 1) j) (per 2) s2 s3 s4 s0 s1
  have z3 := lin_zero (c0 := fun j => fb (col f 3) j ^^ fb (col g 3) j) (c1 := fun j => fb (col f 4) j ^^ fb (col g 4) j) (c2 := fun j => fb (col f 0) j ^^ fb (col g 0) j) (c3 := fun j => fb (col f 1) j ^^ fb (col g 1) j) (c4 := fun j => fb (col f 2) j ^^ fb (col g 2) j) (per 3) s3 s4 s0 s1 s2
  have z4 := lin_zero (c0 := fun j => fb (col f 4) j ^^ fb (col g 4) j) (c1 := fun j => fb (col f 0) j ^^ fb (col g 0) j) (c2 := fun j => fb (col f 1) j ^^ fb (col g 1) j) (c3 := fun j => fb (col f 2) j ^^ fb (col g 2) j) (c4 := fun j => fb (col f 3) j ^^ fb (col g 3) j) (per 4) s4 s0 s1 s2 s3
  intro i hi
  apply fb_ext
  intro j
  have e := hd i hi j
  have z : ∀ x, x < 5 → ∀ j, (fb (col f x) j ^^ fb (col g x) j) = false := by
    intro x hx j
    rcases (show x = 0 ∨ x = 1 ∨ x = 2 ∨ x = 3 ∨ x = 4 from by omega) with rfl | rfl | rfl | rfl | rfl
    · exact z0 j
    · exact z1 j
    · exact z2 j
    · exact z3 j
    · exact z4 j
  rw [← hc (i % 5) (by omega) j, z _ (by omega)] at e
  revert e
  cases fb (f i) j <;> cases fb (g i) j <;> simp

theorem rot_inj {x y : BitVec 64} {k : Nat} (h : x.rotateLeft k = y.rotateLeft k) : x = y := by
  apply BitVec.eq_of_getLsbD_eq
  intro i hi
  have hk : k % 64 < 64 := Nat.mod_lt _ (by omega)
  by_cases hc : i + k % 64 < 64
  · have := congrArg (fun z => z.getLsbD (i + k % 64)) h
    simp only [rotl_bit] at this
    rw [if_neg (by omega), if_neg (by omega)] at this
    simpa [hc] using this
  · have := congrArg (fun z => z.getLsbD (i + k % 64 - 64)) h
    simp only [rotl_bit] at this
    rw [if_pos (by omega), if_pos (by omega), show 64 - k % 64 + (i + k % 64 - 64) = i by omega] at this
    exact this
theorem rho_inj {f g : Nat → BitVec 64} (h : ∀ i, i < 25 → rho f i = rho g i) : ∀ i, i < 25 → f i = g i := by
  intro s hs
  have : ∀ s : Fin 25, ∃ i : Fin 25, srcL.getD i 0 = s := by decide +kernel
  obtain ⟨i, hi⟩ := this ⟨s, hs⟩
  have := rot_inj (h i.1 i.2)
  rw [hi] at this
  exact this

theorem chi_bits : ∀ a0 a1 a2 a3 a4 b0 b1 b2 b3 b4 : Bool, (a0 ^^ (!a1 && a2)) = (b0 ^^ (!b1 && b2)) → (a1 ^^ (!a2 && a3)) = (b1 ^^ (!b2 && b3)) → (a2 ^^ (!a3 && a4)) = (b2 ^^ (!b3 && b4)) → (a3 ^^ (!a4 && a0)) = (b3 ^^ (!b4 && b0)) → (a4 ^^ (!a0 && a1)) = (b4 ^^ (!b0 && b1)) → a0 = b0 ∧ a1 = b1 ∧ a2 = b2 ∧ a3 = b3 ∧ a4 = b4 := by decide +kernel
theorem chi_inj {f g : Nat → BitVec 64} (h : ∀ i, i < 25 → chi f i = chi g i) : ∀ i, i < 25 → f i = g i := by
  have key : ∀ y, y < 5 → ∀ j, j < 64 → (f (5 * y)).getLsbD j = (g (5 * y)).getLsbD j ∧ (f (5 * y + 1)).getLsbD j = (g (5 * y + 1)).getLsbD j ∧ (f (5 * y + 2)).getLsbD j = (g (5 * y + 2)).getLsbD j ∧ (f (5 * y + 3)).getLsbD j = (g (5 * y + 3)).getLsbD j ∧ (f (5 * y + 4)).getLsbD j = (g (5 * y + 4)).getLsbD j := by
    intro y hy j hj
    have e0 := congrArg (fun z => z.getLsbD j) (h (5 * y) (by omega))
    have e1 := congrArg (fun z => z.getLsbD j) (h (5 * y + 1) (by omega))
    have e2 := congrArg (fun z => z.getLsbD j) (h (5 * y + 2) (by omega))
    have e3 := congrArg (fun z => z.getLsbD j) (h (5 * y + 3) (by omega))
    have e4 := congrArg (fun z => z.getLsbD j) (h (5 * y + 4) (by omega))
    have n01 : nx (5 * y) 1 = 5 * y + 1 := by unfold nx; omega
    have n02 : nx (5 * y) 2 = 5 * y + 2 := by unfold nx; omega
    have n11 : nx (5 * y + 1) 1 = 5 * y + 2 := by unfold nx; omega
    have n12 : nx (5 * y + 1) 2 = 5 * y + 3 := by unfold nx; omega
    have n21 : nx (5 * y + 2) 1 = 5 * y + 3 := by unfold nx; omega
    have n22 : nx (5 * y + 2) 2 = 5 * y + 4 := by unfold nx; omega
    have n31 : nx (5 * y + 3) 1 = 5 * y + 4 := by unfold nx; omega
    have n32 : nx (5 * y + 3) 2 = 5 * y := by unfold nx; omega
    have n41 : nx (5 * y + 4) 1 = 5 * y := by unfold nx; omega
    have n42 : nx (5 * y + 4) 2 = 5 * y + 1 := by unfold nx; omega
    simp only [chi, n01, n02, n11, n12, n21, n22, n31, n32, n41, n42, BitVec.getLsbD_xor, BitVec.getLsbD_and, BitVec.getLsbD_not, hj, decide_true, Bool.true_and] at e0 e1 e2 e3 e4
    exact chi_bits _ _ _ _ _ _ _ _ _ _ e0 e1 e2 e3 e4
  intro i hi
  apply BitVec.eq_of_getLsbD_eq
  intro j hj
  obtain ⟨k0, k1, k2, k3, k4⟩ := key (i / 5) (by omega) j hj
  rcases (show i = 5 * (i / 5) ∨ i = 5 * (i / 5) + 1 ∨ i = 5 * (i / 5) + 2 ∨ i = 5 * (i / 5) + 3 ∨ i = 5 * (i / 5) + 4 from by omega) with e | e | e | e | e <;> rw [e] <;> assumption

theorem rnd_inj {r : Nat} {f g : Nat → BitVec 64} (h : ∀ i, i < 25 → rnd r f i = rnd r g i) : ∀ i, i < 25 → f i = g i := by
  refine theta_inj (rho_inj (chi_inj fun i hi => ?_))
  have := h i hi
  unfold rnd at this
  rw [if_pos hi, if_pos hi] at this
  split at this
  · rename_i e; subst e
    have h2 := congrArg (· ^^^ rc r) this
    simpa [BitVec.xor_assoc] using h2
  · exact this
theorem perm_inj : ∀ (n : Nat) {f g : Nat → BitVec 64}, (∀ i, i < 25 → perm n f i = perm n g i) → ∀ i, i < 25 → f i = g i
  | 0, _, _, h => h
  | n + 1, _, _, h => perm_inj n (rnd_inj h)
end Go.Proofs.YthmjglglbdlieaaDoor
