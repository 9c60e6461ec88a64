/-
  How edits are read from bytes, without the program.
-/
import Derived.Test.YtkljblgogiheoaaJ05
namespace Go.Proofs.Ytkljblgogiheoaa

/-- A number at the beginning of what is left; nothing is left behind a fault. -/
def tkS : Option (List Nat) → Nat × Option (List Nat)
  | none => (0, none)
  | some l => if (takeL l).2.2 = 0 then ((takeL l).1, some (l.drop (takeL l).2.1)) else (0, none)
def nmS (s : Option (List Nat)) : Nat × Option (List Nat) := if 2147483647 < (tkS s).1 then (0, none) else tkS s
def fitS (n : Nat) : Option (List Nat) → Nat × Option (List Nat)
  | none => (0, none)
  | some l => if l.length < n then (0, none) else (n, some l)
def ctS (s : Option (List Nat)) : Nat × Option (List Nat) := fitS (tkS s).1 (tkS s).2
def cutS (n : Nat) : Option (List Nat) → List Nat × Option (List Nat)
  | none => ([], none)
  | some l => (l.take n, some (l.drop n))
def kyS (s : Option (List Nat)) : List Nat × Option (List Nat) := cutS (ctS s).1 (ctS s).2
def gnS (s : Option (List Nat)) : (Int × Int) × Option (List Nat) := ((((nmS s).1 : Int), ((nmS (nmS s).2).1 : Int)), (nmS (nmS s).2).2)
def plS (s : Option (List Nat)) : (Int × Fl) × Option (List Nat) :=
  ((((nmS s).1 : Int), ⟨((nmS (nmS s).2).1 : Int), ((nmS (nmS (nmS s).2).2).1 : Int), (kyS (nmS (nmS (nmS s).2).2).2).1, (kyS (kyS (nmS (nmS (nmS s).2).2).2).2).1⟩), (kyS (kyS (nmS (nmS (nmS s).2).2).2).2).2)
def sevS {α : Type} (f : Option (List Nat) → α × Option (List Nat)) : Nat → Option (List Nat) → List α × Option (List Nat)
  | 0, s => ([], s)
  | _ + 1, none => ([], none)
  | n + 1, some l => ((f (some l)).1 :: (sevS f n (f (some l)).2).1, (sevS f n (f (some l)).2).2)
/-- What is left behind the three numbers ahead; all of it. -/
def hdS (b : List Nat) : Option (List Nat) := (tkS (nmS (nmS (some b)).2).2).2
def edS (b : List Nat) (g : List (Int × Int)) (p : List (Int × Fl)) : Ed := ⟨((nmS (some b)).1 : Int), ((nmS (nmS (some b)).2).1 : Int), (tkS (nmS (nmS (some b)).2).2).1, g, p⟩
def drS (b : List Nat) : List (Int × Int) × Option (List Nat) := sevS gnS (ctS (hdS b)).1 (ctS (hdS b)).2
def adS (b : List Nat) : List (Int × Fl) × Option (List Nat) := sevS plS (ctS (drS b).2).1 (ctS (drS b).2).2
/-- The edit that bytes are, if any. -/
def decO (b : List Nat) : Option Ed := if (adS b).2 = some [] ∧ okE (edS b (drS b).1 (adS b).1) = true then some (edS b (drS b).1 (adS b).1) else none
/-- The same, with counts as they stand. -/
def drR (b : List Nat) : List (Int × Int) × Option (List Nat) := sevS gnS (tkS (hdS b)).1 (tkS (hdS b)).2
def adR (b : List Nat) : List (Int × Fl) × Option (List Nat) := sevS plS (tkS (drR b).2).1 (tkS (drR b).2).2

theorem tk_pos : ∀ (l : List Nat) (i v : Nat), (tk i v l).2.2 = 0 → i < (tk i v l).2.1
  | [], _, _, h => by simp [tk] at h
  | x :: r, i, v, h => by
    unfold tk at h ⊢
    split at h
    · simp at h
    · rename_i h1
      rw [if_neg h1]
      split at h
      · rename_i h2; rw [if_pos h2]; simp
      · rename_i h2
        rw [if_neg h2]
        have := tk_pos r (i + 1) _ h
        omega
/-- What is left is shorter, and part of it. -/
def Sh (s s' : Option (List Nat)) : Prop := ∀ l', s' = some l' → ∃ l, s = some l ∧ l'.length < l.length ∧ ∃ k, l' = l.drop k
def Sm (s s' : Option (List Nat)) : Prop := ∀ l', s' = some l' → ∃ l, s = some l ∧ l'.length ≤ l.length ∧ ∃ k, l' = l.drop k
theorem Sh.sm {s s' : Option (List Nat)} (h : Sh s s') : Sm s s' := fun l' e => by
  obtain ⟨l, h1, h2, h3⟩ := h l' e
  exact ⟨l, h1, by omega, h3⟩
theorem Sm.trans {a b c : Option (List Nat)} (h : Sm a b) (g : Sm b c) : Sm a c := fun l' e => by
  obtain ⟨l, h1, h2, k, h3⟩ := g l' e
  obtain ⟨m, g1, g2, j, g3⟩ := h l h1
  exact ⟨m, g1, by omega, j + k, by rw [h3, g3, List.drop_drop]⟩
theorem Sh.trans {a b c : Option (List Nat)} (h : Sh a b) (g : Sm b c) : Sh a c := fun l' e => by
  obtain ⟨l, h1, h2, k, h3⟩ := g l' e
  obtain ⟨m, g1, g2, j, g3⟩ := h l h1
  exact ⟨m, g1, by omega, j + k, by rw [h3, g3, List.drop_drop]⟩
theorem tkS_ok {l : List Nat} (h : (takeL l).2.2 = 0) : tkS (some l) = ((takeL l).1, some (l.drop (takeL l).2.1)) := if_pos h
theorem tkS_no {l : List Nat} (h : (takeL l).2.2 ≠ 0) : tkS (some l) = (0, none) := if_neg h
theorem tkS_sh {s : Option (List Nat)} (hb : ∀ l, s = some l → By l) : Sh s (tkS s).2 := by
  intro l' e
  rcases s with _ | l
  · simp [tkS] at e
  · by_cases h : (takeL l).2.2 = 0
    · rw [tkS_ok h] at e
      simp only [Option.some.injEq] at e
      have h1 := tk_pos l 0 0 h
      have h2 := (tk_bound l (hb l rfl) 0 0 (by omega) (by simp)).2.1
      refine ⟨l, rfl, ?_, _, e.symm⟩
      rw [← e, List.length_drop]
      have : (takeL l).2.1 = (tk 0 0 l).2.1 := rfl
      omega
    · rw [tkS_no h] at e; cases e
theorem Sm.by {s s' : Option (List Nat)} (h : Sm s s') (hb : ∀ l, s = some l → By l) : ∀ l, s' = some l → By l := fun l' e => by
  obtain ⟨l, h1, _, k, h3⟩ := h l' e
  rw [h3]; exact (hb l h1).drop k
theorem nmS_sh {s : Option (List Nat)} (hb : ∀ l, s = some l → By l) : Sh s (nmS s).2 := by
  unfold nmS
  split
  · intro l' e; cases e
  · exact tkS_sh hb
theorem ctS_sh {s : Option (List Nat)} (hb : ∀ l, s = some l → By l) : Sh s (ctS s).2 := by
  unfold ctS
  have h := tkS_sh hb
  rcases hs : (tkS s).2 with _ | l
  · intro l' e; cases e
  · unfold fitS
    rw [hs] at h
    by_cases hl : l.length < (tkS s).1
    · simp only [hl, if_true]; intro l' e; cases e
    · simp only [hl, if_false]; exact h
theorem kyS_sh {s : Option (List Nat)} (hb : ∀ l, s = some l → By l) : Sh s (kyS s).2 := by
  unfold kyS
  have h := ctS_sh hb
  rcases hs : (ctS s).2 with _ | l
  · intro l' e; cases e
  · rw [hs] at h
    refine h.trans fun l' e => ?_
    simp only [cutS, Option.some.injEq] at e
    exact ⟨l, rfl, by rw [← e, List.length_drop]; omega, _, e.symm⟩
theorem gnS_sh {s : Option (List Nat)} (hb : ∀ l, s = some l → By l) : Sh s (gnS s).2 := by
  have h1 := nmS_sh hb
  exact h1.trans (nmS_sh (h1.sm.by hb)).sm
theorem plS_sh {s : Option (List Nat)} (hb : ∀ l, s = some l → By l) : Sh s (plS s).2 := by
  have h1 := nmS_sh hb
  have b1 := h1.sm.by hb
  have h2 := nmS_sh b1
  have b2 := h2.sm.by b1
  have h3 := nmS_sh b2
  have b3 := h3.sm.by b2
  have h4 := kyS_sh b3
  have b4 := h4.sm.by b3
  have h5 := kyS_sh b4
  exact h1.trans (h2.sm.trans (h3.sm.trans (h4.sm.trans h5.sm)))
theorem sevS_none {α : Type} (f : Option (List Nat) → α × Option (List Nat)) : ∀ n, (sevS f n none).2 = none
  | 0 => rfl
  | _ + 1 => rfl
theorem sevS_sm {α : Type} {f : Option (List Nat) → α × Option (List Nat)} (hf : ∀ s, (∀ l, s = some l → By l) → Sh s (f s).2) : ∀ (n : Nat) (s : Option (List Nat)), (∀ l, s = some l → By l) → Sm s (sevS f n s).2
  | 0, s, _ => fun l' e => ⟨l', e, Nat.le_refl _, 0, rfl⟩
  | n + 1, none, _ => fun l' e => by cases e
  | n + 1, some l, hb => by
    have h := hf (some l) hb
    exact h.sm.trans (sevS_sm hf n _ (h.sm.by hb))
/-- More entries than bytes: a fault. -/
theorem sevS_many {α : Type} {f : Option (List Nat) → α × Option (List Nat)} (hf : ∀ s, (∀ l, s = some l → By l) → Sh s (f s).2) : ∀ (n : Nat) (l : List Nat), By l → l.length < n → (sevS f n (some l)).2 = none
  | 0, _, _, h => by omega
  | n + 1, l, hb, h => by
    have hs := hf (some l) (fun l' e => by cases e; exact hb)
    show (sevS f n (f (some l)).2).2 = none
    rcases hr : (f (some l)).2 with _ | l'
    · exact sevS_none f n
    · obtain ⟨m, e1, e2, k, e3⟩ := hs l' hr
      cases e1
      exact sevS_many hf n l' (by rw [e3]; exact hb.drop k) (by omega)
theorem sev_count {α : Type} {f : Option (List Nat) → α × Option (List Nat)} (hf : ∀ s, (∀ l, s = some l → By l) → Sh s (f s).2) {s : Option (List Nat)} (hb : ∀ l, s = some l → By l) : sevS f (tkS s).1 (tkS s).2 = sevS f (ctS s).1 (ctS s).2 ∨ ((sevS f (tkS s).1 (tkS s).2).2 = none ∧ (sevS f (ctS s).1 (ctS s).2).2 = none) := by
  unfold ctS
  have h := (tkS_sh hb).sm.by hb
  rcases hs : (tkS s).2 with _ | l
  · right; exact ⟨sevS_none f _, sevS_none f _⟩
  · rw [hs] at h
    unfold fitS
    by_cases hl : l.length < (tkS s).1
    · right
      simp only [hl, if_true]
      exact ⟨sevS_many hf _ l (h l rfl) hl, sevS_none f _⟩
    · left
      simp only [hl, if_false]
/-- Both ways tell the same. -/
theorem decO_ref {b : List Nat} (hb : By b) : decO b = if (adR b).2 = some [] ∧ okE (edS b (drR b).1 (adR b).1) = true then some (edS b (drR b).1 (adR b).1) else none := by
  have h0 : ∀ l, some b = some l → By l := fun l e => by cases e; exact hb
  have h1 := nmS_sh h0
  have b1 := h1.sm.by h0
  have h2 := nmS_sh b1
  have b2 := h2.sm.by b1
  have h3 := tkS_sh b2
  have b3 : ∀ l, hdS b = some l → By l := h3.sm.by b2
  have none_ad : ∀ (s : Option (List Nat)), s = none → (sevS plS (ctS s).1 (ctS s).2).2 = none ∧ (sevS plS (tkS s).1 (tkS s).2).2 = none := fun s e => by subst e; exact ⟨sevS_none _ _, sevS_none _ _⟩
  rcases sev_count (f := gnS) (fun s => gnS_sh) b3 with e | ⟨e1, e2⟩
  · have hd : drR b = drS b := e
    have bd : ∀ l, (drS b).2 = some l → By l := by
      have hc := ctS_sh b3
      exact (sevS_sm (fun s => gnS_sh) _ _ (hc.sm.by b3)).by (hc.sm.by b3)
    rcases sev_count (f := plS) (fun s => plS_sh) bd with e | ⟨e1, e2⟩
    · have ha : adR b = adS b := by unfold adR; rw [hd]; exact e
      unfold decO
      rw [ha, hd]
    · have a1 : (adS b).2 = none := e2
      have a2 : (adR b).2 = none := by unfold adR; rw [hd]; exact e1
      unfold decO
      rw [if_neg (by rw [a1]; simp), if_neg (by rw [a2]; simp)]
  · have a1 : (adS b).2 = none := (none_ad _ e2).1
    have a2 : (adR b).2 = none := (none_ad _ e1).2
    unfold decO
    rw [if_neg (by rw [a1]; simp), if_neg (by rw [a2]; simp)]
end Go.Proofs.Ytkljblgogiheoaa
