/-
  Logs without the program: records, whole logs, logs that are cut off, and logs with a byte changed.
-/
import Derived.Test.YtegbngbhmgbocaaGreatDoorJ00
import Derived.Test.YtegbngbhmgbocaaGreatDoorRows
import Derived.WalkKit
import Derived.ProofKit
import Derived.OpenShut
import Derived.Handy
import Derived.WalkSpells
import Derived.BigQuiet
import Derived.Deep.QuietTactic
namespace Go.Proofs.YtegbngbhmgbocaaGreatDoor

/-- The record that comes behind so many bytes, and where it ends. -/
def one (b : List Nat) : Nat → Nat → Bool → List Nat → Option (List Nat × Nat)
  | 0, _, _, _ => none
  | f + 1, t, bg, acc => (fnd b t).bind fun x => if x.1 = kd bg true then some (acc ++ x.2.1, x.2.2) else if x.1 = kd bg false ∧ x.2.2 % 64 = 0 then one b f x.2.2 true (acc ++ x.2.1) else none
/-- What is read from a place on. -/
def rdS (b : List Nat) : Nat → Nat → Bool → List Nat → Nat → List (List Nat) × Nat
  | 0, _, _, _, en => ([], en)
  | f + 1, t, bg, acc, en => match fnd b t with
    | none => ([], en)
    | some (k, d, e) => if k = kd bg true then ((acc ++ d) :: (rdS b f e false [] e).1, (rdS b f e false [] e).2) else if k = kd bg false ∧ e % 64 = 0 then rdS b f e true (acc ++ d) en else ([], en)
/-- What Read tells. -/
def readL (b : List Nat) : List (List Nat) × Nat := rdS b (b.length + 1) 0 false [] 0

theorem one_none {b : List Nat} {f t : Nat} {bg : Bool} {acc : List Nat} (h : fnd b t = none) : one b f t bg acc = none := by
  cases f with
  | zero => rfl
  | succ f => unfold one; rw [h]; rfl
theorem one_end {b : List Nat} {f t k e : Nat} {d : List Nat} {bg : Bool} {acc : List Nat} (h : fnd b t = some (k, d, e)) (hk : k = kd bg true) : one b (f + 1) t bg acc = some (acc ++ d, e) := by
  unfold one; rw [h]; exact if_pos hk
theorem one_more {b : List Nat} {f t k e : Nat} {d : List Nat} {bg : Bool} {acc : List Nat} (h : fnd b t = some (k, d, e)) (hk : k = kd bg false) (he : e % 64 = 0) : one b (f + 1) t bg acc = one b f e true (acc ++ d) := by
  rw [one, h]
  show (if k = kd bg true then _ else _) = _
  rw [if_neg (by rw [hk]; exact kd_ne bg), if_pos ⟨hk, he⟩]
theorem one_bad {b : List Nat} {f t k e : Nat} {d : List Nat} {bg : Bool} {acc : List Nat} (h : fnd b t = some (k, d, e)) (hk : k ≠ kd bg true) (he : ¬ (k = kd bg false ∧ e % 64 = 0)) : one b f t bg acc = none := by
  cases f with
  | zero => rfl
  | succ f =>
    unfold one; rw [h]
    show (if k = kd bg true then _ else _) = _
    rw [if_neg hk, if_neg he]
/-- The three ways of a step. -/
theorem one_cases {b : List Nat} {f t : Nat} {bg : Bool} {acc r : List Nat} {e : Nat} (h : one b (f + 1) t bg acc = some (r, e)) : ∃ k d e', fnd b t = some (k, d, e') ∧ ((k = kd bg true ∧ r = acc ++ d ∧ e = e') ∨ (k = kd bg false ∧ e' % 64 = 0 ∧ one b f e' true (acc ++ d) = some (r, e))) := by
  rcases hf : fnd b t with _ | ⟨k, d, e'⟩
  · rw [one_none hf] at h; cases h
  · refine ⟨k, d, e', rfl, ?_⟩
    by_cases h1 : k = kd bg true
    · rw [one_end hf h1] at h
      simp only [Option.some.injEq, Prod.mk.injEq] at h
      exact .inl ⟨h1, h.1.symm, h.2.symm⟩
    · by_cases h2 : k = kd bg false ∧ e' % 64 = 0
      · rw [one_more hf h2.1 h2.2] at h
        exact .inr ⟨h2.1, h2.2, h⟩
      · rw [one_bad hf h1 h2] at h; cases h
theorem one_ends {b : List Nat} : ∀ (f : Nat) {t : Nat} {bg : Bool} {acc r : List Nat} {e : Nat}, one b f t bg acc = some (r, e) → t + 7 ≤ e ∧ e ≤ b.length
  | 0, _, _, _, _, _, h => by cases h
  | f + 1, t, bg, acc, r, e, h => by
    obtain ⟨k, d, e', hf, ⟨_, _, rfl⟩ | ⟨_, _, h'⟩⟩ := one_cases h
    · exact ⟨(fnd_end hf).1, (fnd_end hf).2.1⟩
    · have := one_ends f h'
      have := fnd_end hf
      omega
theorem rdS_fuel {b : List Nat} : ∀ (f g t : Nat) (bg : Bool) (acc : List Nat) (en : Nat), b.length < t + f → b.length < t + g → rdS b f t bg acc en = rdS b g t bg acc en
  | 0, 0, _, _, _, _, _, _ => rfl
  | 0, g + 1, t, bg, acc, en, h, _ => by
    unfold rdS; rw [fnd_none (by omega)]
  | f + 1, 0, t, bg, acc, en, _, h => by
    unfold rdS; rw [fnd_none (by omega)]
  | f + 1, g + 1, t, bg, acc, en, h1, h2 => by
    unfold rdS
    rcases hf : fnd b t with _ | ⟨k, d, e⟩
    · rfl
    · have := fnd_end hf
      simp only []
      rw [rdS_fuel f g e false [] e (by omega) (by omega), rdS_fuel f g e true (acc ++ d) en (by omega) (by omega)]
/-- Reading record by record. -/
theorem rdS_none {b : List Nat} : ∀ (f : Nat) {t : Nat} {bg : Bool} {acc : List Nat} {en : Nat}, one b f t bg acc = none → rdS b f t bg acc en = ([], en)
  | 0, _, _, _, _, _ => rfl
  | f + 1, t, bg, acc, en, h => by
    unfold rdS
    rcases hf : fnd b t with _ | ⟨k, d, e⟩
    · rfl
    · simp only []
      by_cases h1 : k = kd bg true
      · rw [one_end hf h1] at h; cases h
      · rw [if_neg h1]
        by_cases h2 : k = kd bg false ∧ e % 64 = 0
        · rw [one_more hf h2.1 h2.2] at h
          rw [if_pos h2, rdS_none f h]
        · rw [if_neg h2]
theorem rdS_end {b : List Nat} {f t k e en : Nat} {d : List Nat} {bg : Bool} {acc : List Nat} (h : fnd b t = some (k, d, e)) (hk : k = kd bg true) : rdS b (f + 1) t bg acc en = ((acc ++ d) :: (rdS b f e false [] e).1, (rdS b f e false [] e).2) := by
  rw [rdS, h]; exact if_pos hk
theorem rdS_more {b : List Nat} {f t k e en : Nat} {d : List Nat} {bg : Bool} {acc : List Nat} (h : fnd b t = some (k, d, e)) (hk : k = kd bg false) (he : e % 64 = 0) : rdS b (f + 1) t bg acc en = rdS b f e true (acc ++ d) en := by
  rw [rdS, h]
  show (if k = kd bg true then _ else _) = _
  rw [if_neg (by rw [hk]; exact kd_ne bg), if_pos ⟨hk, he⟩]
theorem rdS_some {b : List Nat} : ∀ (f : Nat) {t : Nat} {bg : Bool} {acc r : List Nat} {e en : Nat}, b.length < t + f → one b f t bg acc = some (r, e) → rdS b f t bg acc en = (r :: (rdS b (b.length + 1) e false [] e).1, (rdS b (b.length + 1) e false [] e).2)
  | 0, _, _, _, _, _, _, _, h => by cases h
  | f + 1, t, bg, acc, r, e, en, hl, h => by
    obtain ⟨k, d, e', hf, h'⟩ := one_cases h
    have he := fnd_end hf
    rcases h' with ⟨h1, rfl, rfl⟩ | ⟨h1, h2, h3⟩
    · rw [rdS_end hf h1, rdS_fuel f (b.length + 1) e false [] e (by omega) (by omega)]
    · rw [rdS_more hf h1 h2, rdS_some f (by omega) h3]

theorem one_fuel {b : List Nat} : ∀ (f g : Nat) {t : Nat} {bg : Bool} {acc r : List Nat} {e : Nat}, b.length < t + g → one b f t bg acc = some (r, e) → one b g t bg acc = some (r, e)
  | 0, _, _, _, _, _, _, _, h => by cases h
  | f + 1, 0, t, bg, acc, r, e, hg, h => by
    obtain ⟨k, d, e', hf, _⟩ := one_cases h
    have := fnd_end hf
    omega
  | f + 1, g + 1, t, bg, acc, r, e, hg, h => by
    obtain ⟨k, d, e', hf, h'⟩ := one_cases h
    have he := fnd_end hf
    rcases h' with ⟨h1, rfl, rfl⟩ | ⟨h1, h2, h3⟩
    · exact one_end hf h1
    · rw [one_more hf h1 h2]; exact one_fuel f g (by omega) h3

/-- A record that was laid down is read, whatever comes behind. -/
theorem one_frs {b rest : List Nat} : ∀ (g f : Nat) {t : Nat} {bg : Bool} {r acc : List Nat}, b.drop t = List.replicate (zr t) 0 ++ (frs g bg (lf t) r ++ rest) → By r → r.length + (if lf t = 7 then 1 else 0) < g → r.length + (if lf t = 7 then 1 else 0) < f →
    one b f t bg acc = some (acc ++ r, t + zr t + (frs g bg (lf t) r).length)
  | 0, _, _, _, _, _, _, _, h, _ => by omega
  | _ + 1, 0, _, _, _, _, _, _, _, h => by omega
  | g + 1, f + 1, t, bg, r, acc, h, hr, hg, hf => by
    have h7 := lf_ge t
    have h64 := lf_le t
    unfold frs at h ⊢
    by_cases h1 : r.length ≤ lf t - 7
    · rw [if_pos h1] at h ⊢
      rw [one_end (fnd_frag h (kd_lt _ _) hr (by omega)) rfl, fragL_len]
      simp only [Option.some.injEq, Prod.mk.injEq, true_and]
      omega
    · rw [if_neg h1] at h ⊢
      rw [List.append_assoc] at h
      have hl : (r.take (lf t - 7)).length = lf t - 7 := by rw [List.length_take]; omega
      have hz := zr_lf t
      have h2 := fnd_frag h (kd_lt _ _) (hr.take _) (by omega)
      rw [hl] at h2
      have e1 : t + zr t + 7 + (lf t - 7) = t + zr t + lf t := by omega
      rw [e1] at h2
      rw [one_more h2 rfl hz]
      have h3 : b.drop (t + zr t + lf t) = List.replicate (zr (t + zr t + lf t)) 0 ++ (frs g true (lf (t + zr t + lf t)) (r.drop (lf t - 7)) ++ rest) := by
        rw [zr_0 hz, lf_0 hz, Nat.add_assoc, ← List.drop_drop, h, ← List.drop_drop, List.drop_left' (by simp), List.drop_left' (by rw [fragL_len, hl]; omega)]
        simp
      have hdl : (r.drop (lf t - 7)).length = r.length - (lf t - 7) := List.length_drop
      have hx : r.length - (lf t - 7) + (if (64 : Nat) = 7 then 1 else 0) < g ∧ r.length - (lf t - 7) + (if (64 : Nat) = 7 then 1 else 0) < f := by
        simp
        split at hg <;> split at hf <;> omega
      have h4 := one_frs g f (acc := acc ++ r.take (lf t - 7)) h3 (hr.drop _) (by rw [lf_0 hz, hdl]; exact hx.1) (by rw [lf_0 hz, hdl]; exact hx.2)
      rw [zr_0 hz, lf_0 hz] at h4
      rw [h4, List.append_assoc, List.take_append_drop, List.length_append, fragL_len, hl]
      simp only [Option.some.injEq, Prod.mk.injEq, true_and]
      omega
theorem one_app {b rest : List Nat} {t : Nat} {r : List Nat} (h : b.drop t = appL t r ++ rest) (hr : By r) : one b (b.length + 1) t false [] = some (r, t + (appL t r).length) := by
  have h' := h
  unfold appL at h
  rw [List.append_assoc] at h
  have := one_frs (acc := []) _ (r.length + 2) h hr (by split <;> omega) (by split <;> omega)
  rw [List.nil_append] at this
  rw [one_fuel _ (b.length + 1) (by omega) this]
  unfold appL
  rw [List.length_append, List.length_replicate]
  simp only [Option.some.injEq, Prod.mk.injEq, true_and]
  omega

/-- Only the bytes up to a record's end matter. -/
theorem take_le {b b' : List Nat} {e e' : Nat} (h : b'.take e = b.take e) (h1 : e' ≤ e) : b'.take e' = b.take e' := by
  have := congrArg (List.take e') h
  rwa [List.take_take, List.take_take, Nat.min_eq_left h1] at this
theorem one_agree {b b' : List Nat} : ∀ (f : Nat) {t : Nat} {bg : Bool} {acc r : List Nat} {e : Nat}, one b f t bg acc = some (r, e) → b'.take e = b.take e → e ≤ b'.length → one b' f t bg acc = some (r, e)
  | 0, _, _, _, _, _, h, _, _ => by cases h
  | f + 1, t, bg, acc, r, e, h, ha, hl => by
    obtain ⟨k, d, e', hf, h'⟩ := one_cases h
    rcases h' with ⟨h1, rfl, rfl⟩ | ⟨h1, h2, h3⟩
    · exact one_end (fnd_agree hf ha hl) h1
    · have he := one_ends f h3
      rw [one_more (fnd_agree hf (take_le ha (by omega)) (by omega)) h1 h2]
      exact one_agree f h3 ha hl
theorem one_cut {b : List Nat} {c : Nat} : ∀ (f : Nat) {t : Nat} {bg : Bool} {acc r : List Nat} {e : Nat}, one b f t bg acc = some (r, e) → c < e → ∀ g, one (b.take c) g t bg acc = none
  | 0, _, _, _, _, _, h, _, _ => by cases h
  | f + 1, t, bg, acc, r, e, h, hc, 0 => rfl
  | f + 1, t, bg, acc, r, e, h, hc, g + 1 => by
    obtain ⟨k, d, e', hf, h'⟩ := one_cases h
    by_cases hce : c < e'
    · exact one_none (fnd_cut hf hce)
    · rcases h' with ⟨h1, rfl, rfl⟩ | ⟨h1, h2, h3⟩
      · omega
      · have he := one_ends f h3
        rw [one_more (fnd_agree hf (by rw [List.take_take, Nat.min_eq_left (by omega)]) (by rw [List.length_take]; omega)) h1 h2]
        exact one_cut f h3 hc g

/-- Which bytes are those of a fragment's length. -/
def mks (b : List Nat) : Nat → Nat → Nat → Bool
  | 0, _, _ => false
  | f + 1, t, p => if t + 7 ≤ b.length then (if 64 - t % 64 < 7 then mks b f (t + (64 - t % 64)) p else (decide (p = t + 4) || decide (p = t + 5) || mks b f (t + 7 + (b.getD (t + 4) 0 + 256 * b.getD (t + 5) 0)) p)) else false
theorem mks_fnd {b : List Nat} {f t k e p : Nat} {d : List Nat} (hf : fnd b t = some (k, d, e)) (hl : b.length < t + f) (h : mks b f t p = false) : p ≠ t + zr t + 4 ∧ p ≠ t + zr t + 5 ∧ ∃ g, b.length < e + g ∧ mks b g e p = false := by
  obtain ⟨s, n, h1, h2, h3, -, -, h6, -⟩ := fnd_some hf
  have key : ∀ (f s : Nat), ¬ 64 - s % 64 < 7 → s + 7 ≤ b.length → b.length < s + f → mks b f s p = false → p ≠ s + 4 ∧ p ≠ s + 5 ∧ ∃ g, b.length < s + 7 + (b.getD (s + 4) 0 + 256 * b.getD (s + 5) 0) + g ∧ mks b g (s + 7 + (b.getD (s + 4) 0 + 256 * b.getD (s + 5) 0)) p = false := by
    intro f s c1 c2 c3 c4
    cases f with
    | zero => omega
    | succ f =>
      unfold mks at c4
      rw [if_pos c2, if_neg c1] at c4
      simp only [Bool.or_eq_false_iff, decide_eq_false_iff_not] at c4
      exact ⟨c4.1.1, c4.1.2, f, by omega, c4.2⟩
  have he : e = s + 7 + (b.getD (s + 4) 0 + 256 * b.getD (s + 5) 0) := by rw [h6, h2]
  rw [he, ← h1]
  by_cases hz : 64 - t % 64 < 7
  · have hzr : zr t = 64 - t % 64 := by unfold zr; rw [if_pos hz]
    cases f with
    | zero => omega
    | succ f =>
      unfold mks at h
      rw [if_pos (by omega), if_pos hz, ← hzr, ← h1] at h
      exact key f s (by omega) h3 (by omega) h
  · have hzr : zr t = 0 := by unfold zr; rw [if_neg hz]
    have : s = t := by omega
    subst this
    exact key f s hz h3 hl h
theorem one_mks {b : List Nat} {p : Nat} : ∀ (f : Nat) {t : Nat} {bg : Bool} {acc r : List Nat} {e : Nat}, one b f t bg acc = some (r, e) → ∀ {g : Nat}, b.length < t + g → mks b g t p = false → ∃ g', b.length < e + g' ∧ mks b g' e p = false
  | 0, _, _, _, _, _, h, _, _, _ => by cases h
  | f + 1, t, bg, acc, r, e, h, g, hg, hm => by
    obtain ⟨k, d, e', hf, h'⟩ := one_cases h
    obtain ⟨_, _, g', hg', hm'⟩ := mks_fnd hf hg hm
    rcases h' with ⟨h1, rfl, rfl⟩ | ⟨h1, h2, h3⟩
    · exact ⟨g', hg', hm'⟩
    · exact one_mks f h3 hg' hm'
theorem take_set_le {b : List Nat} {p y e : Nat} (h : e ≤ p) : (b.set p y).take e = b.take e := by
  have := set_take_ne (b := b) (p := p) (y := y) (x := 0) (n := e) (.inr (by omega))
  simpa using this
theorem one_hurt {b : List Nat} {p x y : Nat} (hb : By b) (hx : b[p]? = some x) (hxy : y ≠ x) (hy : y < 256) : ∀ (f : Nat) {t : Nat} {bg : Bool} {acc r : List Nat} {e : Nat}, one b f t bg acc = some (r, e) → t ≤ p → p < e → ∀ {g : Nat}, b.length < t + g → mks b g t p = false → ∀ f', one (b.set p y) f' t bg acc = none
  | 0, _, _, _, _, _, h, _, _, _, _, _, _ => by cases h
  | f + 1, t, bg, acc, r, e, h, _, _, _, _, _, 0 => rfl
  | f + 1, t, bg, acc, r, e, h, hp1, hp2, g, hg, hm, f' + 1 => by
    obtain ⟨k, d, e', hf, h'⟩ := one_cases h
    obtain ⟨m1, m2, g', hg', hm'⟩ := mks_fnd hf hg hm
    by_cases hpe : p < e'
    · exact one_none (fnd_hurt hf hb hp1 hpe hx hxy hy m1 m2)
    · rcases h' with ⟨h1, rfl, rfl⟩ | ⟨h1, h2, h3⟩
      · omega
      · have he := one_ends f h3
        rw [one_more (fnd_agree hf (take_set_le (by omega)) (by rw [List.length_set]; omega)) h1 h2]
        exact one_hurt hb hx hxy hy f h3 (by omega) hp2 hg' hm' f'

/-- The bytes of records, one behind the other, and where each one ends. -/
def logL : Nat → List (List Nat) → List Nat
  | _, [] => []
  | t, r :: rs => appL t r ++ logL (t + (appL t r).length) rs
def endsL : Nat → List (List Nat) → List Nat
  | _, [] => []
  | t, r :: rs => (t + (appL t r).length) :: endsL (t + (appL t r).length) rs
theorem logL_by : ∀ (rs : List (List Nat)) (t : Nat), (∀ r ∈ rs, By r) → By (logL t rs)
  | [], _, _ => fun x hx => by simp [logL] at hx
  | r :: rs, t, h => (appL_by (h r (by simp))).append (logL_by rs _ fun x hx => h x (List.mem_cons_of_mem _ hx))
theorem endsL_len : ∀ (rs : List (List Nat)) (t : Nat), (endsL t rs).length = rs.length
  | [], _ => rfl
  | r :: rs, t => by simp [endsL, endsL_len rs]
theorem logL_snoc : ∀ (rs : List (List Nat)) (r : List Nat) (t : Nat), logL t (rs ++ [r]) = logL t rs ++ appL (t + (logL t rs).length) r
  | [], r, t => by simp [logL]
  | q :: rs, r, t => by
    rw [List.cons_append, logL, logL, logL_snoc rs r, List.length_append, List.append_assoc, Nat.add_assoc]
theorem endsL_snoc : ∀ (rs : List (List Nat)) (r : List Nat) (t : Nat), endsL t (rs ++ [r]) = endsL t rs ++ [t + (logL t (rs ++ [r])).length]
  | [], r, t => by simp [logL, endsL]
  | q :: rs, r, t => by
    rw [List.cons_append, endsL, endsL, endsL_snoc rs r, logL, List.length_append, List.cons_append, Nat.add_assoc]
theorem logL_append : ∀ (rs qs : List (List Nat)) (t : Nat), logL t (rs ++ qs) = logL t rs ++ logL (t + (logL t rs).length) qs
  | [], qs, t => by simp [logL]
  | q :: rs, qs, t => by
    rw [List.cons_append, logL, logL, logL_append rs qs, List.length_append, List.append_assoc, Nat.add_assoc]

/-- The records that lie wholly ahead of a place, and where they end. -/
def ahd (p : Nat) : Nat → List (List Nat) → List (List Nat) × Nat
  | t, [] => ([], t)
  | t, r :: rs => if t + (appL t r).length ≤ p then (r :: (ahd p (t + (appL t r).length) rs).1, (ahd p (t + (appL t r).length) rs).2) else ([], t)
theorem fnd_past {b : List Nat} {t : Nat} (h : b.length ≤ t) : fnd b t = none := fnd_none (by omega)
theorem rd_log {b : List Nat} : ∀ (rs : List (List Nat)) {t : Nat}, b.drop t = logL t rs → t ≤ b.length → (∀ r ∈ rs, By r) → rdS b (b.length + 1) t false [] t = (rs, b.length)
  | [], t, h, ht, _ => by
    have : b.length ≤ t := by
      have := congrArg List.length h
      rw [List.length_drop] at this
      simp [logL] at this
      omega
    rw [rdS_none _ (one_none (fnd_past this))]
    rw [show t = b.length from by omega]
  | r :: rs, t, h, ht, hr => by
    have h' : b.drop t = appL t r ++ logL (t + (appL t r).length) rs := h
    have h1 := one_app h' (hr r (by simp))
    have he := one_ends _ h1
    have h2 : b.drop (t + (appL t r).length) = logL (t + (appL t r).length) rs := by
      rw [← List.drop_drop, h', List.drop_left' rfl]
    rw [rdS_some _ (by omega) h1, rd_log rs h2 he.2 (fun x hx => hr x (List.mem_cons_of_mem _ hx))]
theorem read_log {rs : List (List Nat)} (h : ∀ r ∈ rs, By r) : readL (logL 0 rs) = (rs, (logL 0 rs).length) := rd_log rs rfl (Nat.zero_le _) h
theorem rd_cut {b : List Nat} {c : Nat} (hc : c ≤ b.length) : ∀ (rs : List (List Nat)) {t : Nat}, b.drop t = logL t rs → t ≤ c → (∀ r ∈ rs, By r) → rdS (b.take c) ((b.take c).length + 1) t false [] t = ahd c t rs
  | [], t, h, ht, _ => by
    rw [rdS_none _ (one_none (fnd_past ?_))]
    · rfl
    · have := congrArg List.length h
      rw [List.length_drop] at this
      simp [logL] at this
      rw [List.length_take]; omega
  | r :: rs, t, h, ht, hr => by
    have h' : b.drop t = appL t r ++ logL (t + (appL t r).length) rs := h
    have h1 := one_app h' (hr r (by simp))
    have he := one_ends _ h1
    have hlen : (b.take c).length = c := by rw [List.length_take]; omega
    have h2 : b.drop (t + (appL t r).length) = logL (t + (appL t r).length) rs := by
      rw [← List.drop_drop, h', List.drop_left' rfl]
    unfold ahd
    by_cases hce : t + (appL t r).length ≤ c
    · rw [if_pos hce]
      have h3 := one_agree (b' := b.take c) _ h1 (by rw [List.take_take, Nat.min_eq_left hce]) (by omega)
      have h4 := one_fuel _ ((b.take c).length + 1) (by omega) h3
      rw [rdS_some _ (by omega) h4, rd_cut hc rs h2 hce (fun x hx => hr x (List.mem_cons_of_mem _ hx))]
    · rw [if_neg hce, rdS_none _ (one_cut _ h1 (by omega) _)]
theorem read_cut {rs : List (List Nat)} (h : ∀ r ∈ rs, By r) {c : Nat} (hc : c ≤ (logL 0 rs).length) : readL ((logL 0 rs).take c) = ahd c 0 rs := rd_cut hc rs rfl (Nat.zero_le _) h
theorem rd_hurt {b : List Nat} {p x y : Nat} (hb : By b) (hx : b[p]? = some x) (hxy : y ≠ x) (hy : y < 256) : ∀ (rs : List (List Nat)) {t : Nat}, b.drop t = logL t rs → t ≤ p → (∀ r ∈ rs, By r) → ∀ {g : Nat}, b.length < t + g → mks b g t p = false → rdS (b.set p y) (b.length + 1) t false [] t = ahd p t rs
  | [], t, h, ht, _, _, _, _ => by
    have := congrArg List.length h
    rw [List.length_drop] at this
    simp [logL] at this
    have := (List.getElem?_eq_some_iff.1 hx).1
    omega
  | r :: rs, t, h, ht, hr, g, hg, hm => by
    have h' : b.drop t = appL t r ++ logL (t + (appL t r).length) rs := h
    have h1 := one_app h' (hr r (by simp))
    have he := one_ends _ h1
    have h2 : b.drop (t + (appL t r).length) = logL (t + (appL t r).length) rs := by
      rw [← List.drop_drop, h', List.drop_left' rfl]
    obtain ⟨g', hg', hm'⟩ := one_mks _ h1 hg hm
    unfold ahd
    by_cases hce : t + (appL t r).length ≤ p
    · rw [if_pos hce]
      have h3 := one_agree (b' := b.set p y) _ h1 (take_set_le hce) (by rw [List.length_set]; omega)
      have hrec := rd_hurt hb hx hxy hy rs h2 hce (fun z hz => hr z (List.mem_cons_of_mem _ hz)) hg' hm'
      rw [rdS_some _ (by rw [List.length_set]; omega) h3, List.length_set, hrec]
    · rw [if_neg hce, rdS_none _ (one_hurt hb hx hxy hy _ h1 ht (by omega) hg hm _)]
theorem read_hurt {rs : List (List Nat)} (h : ∀ r ∈ rs, By r) {p x y : Nat} (hx : (logL 0 rs)[p]? = some x) (hxy : y ≠ x) (hy : y < 256) (hm : mks (logL 0 rs) ((logL 0 rs).length + 1) 0 p = false) : readL ((logL 0 rs).set p y) = ahd p 0 rs := by
  unfold readL
  rw [List.length_set]
  exact rd_hurt (logL_by rs 0 h) hx hxy hy rs rfl (Nat.zero_le _) h (g := (logL 0 rs).length + 1) (by omega) hm

/-- How the laws count the records ahead of a place. -/
def cntA (p : Nat) : List Nat → Nat
  | [] => 0
  | e :: es => if e ≤ p then cntA p es + 1 else 0
theorem ahd_cnt (p : Nat) : ∀ (rs : List (List Nat)) (t : Nat), (ahd p t rs).1 = rs.take (cntA p (endsL t rs))
  | [], _ => by simp [ahd]
  | r :: rs, t => by
    unfold ahd endsL cntA
    split
    · rw [List.take_succ_cons, ← ahd_cnt p rs]
    · simp
theorem ahd_end (p : Nat) : ∀ (rs : List (List Nat)) (t : Nat), (ahd p t rs).2 = t + (logL t (rs.take (cntA p (endsL t rs)))).length
  | [], _ => by simp [ahd, logL]
  | r :: rs, t => by
    unfold ahd endsL cntA
    split
    · rw [List.take_succ_cons, logL, List.length_append, ← Nat.add_assoc, ← ahd_end p rs]
    · simp [logL]
theorem cntA_le (p : Nat) : ∀ (es : List Nat), cntA p es ≤ es.length
  | [] => Nat.le_refl _
  | e :: es => by unfold cntA; split; exact Nat.succ_le_succ (cntA_le p es); omega
theorem cntA_step (p : Nat) : ∀ (es : List Nat) (k e : Nat), k ≤ cntA p es → es[k]? = some e → (e ≤ p ↔ k + 1 ≤ cntA p es)
  | [], k, e, _, h => by simp at h
  | x :: es, 0, e, _, h => by
    simp at h; subst h
    unfold cntA
    split
    · exact ⟨fun _ => by omega, fun _ => by assumption⟩
    · exact ⟨fun _ => by contradiction, fun _ => by omega⟩
  | x :: es, k + 1, e, hk, h => by
    simp at h
    unfold cntA at hk ⊢
    split at hk
    · rename_i hx
      rw [if_pos hx, cntA_step p es k e (by omega) h]; omega
    · omega
/-- Where a log's first records end. -/
theorem endsL_at : ∀ (rs : List (List Nat)) (t k e : Nat), (endsL t rs)[k]? = some e → e = t + (logL t (rs.take (k + 1))).length
  | [], _, _, _, h => by simp [endsL] at h
  | r :: rs, t, 0, e, h => by simp [endsL] at h; simp [logL]; omega
  | r :: rs, t, k + 1, e, h => by
    simp only [endsL, List.getElem?_cons_succ] at h
    rw [endsL_at rs _ k e h, List.take_succ_cons, logL, List.length_append, Nat.add_assoc]
theorem logL_len_le : ∀ (rs : List (List Nat)) (t : Nat), (logL t rs).length ≤ 13 * rs.length + 9 * (rs.map List.length).sum
  | [], _ => by simp [logL]
  | r :: rs, t => by
    have h1 := logL_len_le rs (t + (appL t r).length)
    have h2 := zr_le t
    have h3 := lf_ge t
    simp only [logL, List.length_append, List.length_cons, List.map_cons, List.sum_cons]
    rw [appL_len] at h1 ⊢
    unfold nfr at h1 ⊢
    omega
end Go.Proofs.YtegbngbhmgbocaaGreatDoor
namespace Go.Proofs.YtegbngbhmgbocaaGreatDoor
open Go.ChangeShapes Go.WideShapes Go.ChangeAt Go.RowKit

theorem hid {p : Prop} (h : p) : Hid p := h
theorem blk_lt {w : World} {b : Nat} {o : Obj} (h : w.heap[b]? = some o) : b < w.heap.size := (Array.getElem?_eq_some_iff.1 h).1
theorem blk_cell {w : World} {b : Nat} {cs : Array Value} {t : TypeId} (h : w.heap[b]? = some (.cells cs t (0, 0))) (i : Nat) : w.cell? ⟨b, i, none⟩ = cs[i]? := by
  simp [World.cell?, h]
theorem blk_frozen {w : World} {b : Nat} {cs : Array Value} {t : TypeId} (h : w.heap[b]? = some (.cells cs t (0, 0))) (i : Nat) : w.frozen? ⟨b, i, none⟩ = false := by
  simp [World.frozen?, h]
theorem blk_set {w : World} {b : Nat} {cs : Array Value} {t : TypeId} (h : w.heap[b]? = some (.cells cs t (0, 0))) (i : Nat) (v : Value) :
    (w.setCell ⟨b, i, none⟩ v).heap[b]? = some (.cells (cs.setIfInBounds i v) t (0, 0)) := by
  simp only [World.setCell, Array.getElem?_modify, if_true, h, Option.map_some]; rfl
theorem blk_setne (w : World) {b k : Nat} (i : Nat) (v : Value) (h : k ≠ b) : (w.setCell ⟨b, i, none⟩ v).heap[k]? = w.heap[k]? :=
  Below.heap_setCell _ _ _ _ h
theorem blk_drew (w : World) (k : Nat) : w.drew.heap[k]? = w.heap[k]? := rfl
theorem heap_drewN (w : World) (n : Nat) : (w.drewN n).heap = w.heap := by induction n generalizing w with
  | zero => rfl
  | succ n ih => exact ih w.drew
theorem os_drewN (w : World) (n : Nat) : (w.drewN n).os = w.os ∧ (w.drewN n).tape = w.tape ∧ (w.drewN n).output = w.output := by induction n generalizing w with
  | zero => exact ⟨rfl, rfl, rfl⟩
  | succ n ih => exact ih w.drew
theorem blk_drewN (w : World) (n k : Nat) : (w.drewN n).heap[k]? = w.heap[k]? := by rw [heap_drewN]
theorem blk_old (w : World) (o : Obj) {k : Nat} (h : k < w.heap.size) : (w.alloc o).heap[k]? = w.heap[k]? := Below.heap_alloc w o k h
theorem blk_new (w : World) (o : Obj) : (w.alloc o).heap[w.heap.size]? = some o := heap_alloc_new w o

theorem new_at (w : World) (o : Obj) {k : Nat} (h : k = w.heap.size) : (w.alloc o).heap[k]? = some o := by rw [h]; exact blk_new w o

/-- All blocks but those of S are as they were; none has gone. -/
structure Fr (S : List Nat) (w w' : World) : Prop where
  os : w'.os = w.os
  tape : w'.tape = w.tape
  output : w'.output = w.output
  size : w.heap.size ≤ w'.heap.size
  block : ∀ k, k < w.heap.size → k ∉ S → w'.heap[k]? = w.heap[k]?

theorem Fr.refl (S : List Nat) (w : World) : Fr S w w := ⟨rfl, rfl, rfl, Nat.le_refl _, fun _ _ _ => rfl⟩
theorem Fr.trans {S : List Nat} {a b c : World} (h : Fr S a b) (k : Fr S b c) : Fr S a c :=
  ⟨k.os.trans h.os, k.tape.trans h.tape, k.output.trans h.output, Nat.le_trans h.size k.size, fun i hi hs => (k.block i (Nat.lt_of_lt_of_le hi h.size) hs).trans (h.block i hi hs)⟩
theorem Fr.mono {S S' : List Nat} {a b : World} (h : Fr S a b) (hs : ∀ k ∈ S, k ∈ S') : Fr S' a b :=
  ⟨h.os, h.tape, h.output, h.size, fun k hk hn => h.block k hk (fun e => hn (hs k e))⟩
/-- What lies in blocks that were not there before may be left out of S. -/
theorem Fr.shed {S S' : List Nat} {a b : World} (h : Fr S a b) (hs : ∀ k ∈ S, k < a.heap.size → k ∈ S') : Fr S' a b :=
  ⟨h.os, h.tape, h.output, h.size, fun k hk hn => h.block k hk (fun e => hn (hs k e hk))⟩
theorem Fr.drew {S : List Nat} {a b : World} (h : Fr S a b) : Fr S a b.drew := ⟨h.os, h.tape, h.output, h.size, h.block⟩
theorem Fr.drewN {S : List Nat} {a b : World} (h : Fr S a b) (n : Nat) : Fr S a (b.drewN n) :=
  have e := os_drewN b n
  ⟨e.1.trans h.os, e.2.1.trans h.tape, e.2.2.trans h.output, by rw [heap_drewN]; exact h.size, fun k hk hn => by rw [heap_drewN]; exact h.block k hk hn⟩
theorem Fr.alloc {S : List Nat} {a b : World} (h : Fr S a b) (o : Obj) : Fr S a (b.alloc o) :=
  h.trans ⟨rfl, rfl, rfl, by simp, fun k hk _ => blk_old _ _ hk⟩
theorem Fr.set {S : List Nat} {a b : World} (h : Fr S a b) {p : Nat} (i : Nat) (v : Value) (hp : p ∈ S ∨ a.heap.size ≤ p) : Fr S a (b.setCell ⟨p, i, none⟩ v) :=
  ⟨h.os, h.tape, h.output, by simpa [World.setCell] using h.size, fun k hk hn => by
    rw [blk_setne _ _ _ (by rcases hp with hp | hp <;> intro e <;> subst e; exact hn hp; omega)]; exact h.block k hk hn⟩
theorem Fr.grown {S : List Nat} {a b c : World} {row : Option Nat} (h : Fr S a b) (hg : b.grownBy c row) (hr : ∀ k, row = some k → k ∈ S ∨ a.heap.size ≤ k) : Fr S a c :=
  ⟨hg.os.trans h.os, hg.tape.trans h.tape, hg.output.trans h.output, Nat.le_trans h.size hg.size, fun k hk hn => by
    rw [hg.block k (Nat.lt_of_lt_of_le hk h.size) (fun e => by rcases hr k e.symm with x | x; exact hn x; omega)]; exact h.block k hk hn⟩
theorem Fr.at {S : List Nat} {a b : World} (h : Fr S a b) {k : Nat} {o : Obj} (hk : a.heap[k]? = some o) (hn : k ∉ S) : b.heap[k]? = some o := by
  rw [h.block k (blk_lt hk) hn]; exact hk
theorem Fr.below {S : List Nat} {a b : World} {B : Nat} (h : Fr S a b) (hB : B ≤ a.heap.size) (hs : ∀ k ∈ S, B ≤ k) : Below B a b :=
  ⟨h.os, h.tape, h.output, h.size, fun k hk => h.block k (by omega) (fun e => by have := hs k e; omega)⟩
end Go.Proofs.YtegbngbhmgbocaaGreatDoor
