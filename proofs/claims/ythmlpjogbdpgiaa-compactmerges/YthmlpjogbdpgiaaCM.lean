/-
  Merging without the program: all entries in order, what stays.
-/
import Derived.Test.YthmlpjogbdpgiaaCD
namespace Go.Proofs.Ythmlpjogbdpgiaa

abbrev Lt (p q : List Nat × List Nat) : Prop := ordK p.1 q.1 < 0
/-- All entries in order, no key twice. -/
def MgS (A S : Ps) : Prop := S.Perm A ∧ S.Pairwise Lt
theorem MgS.one {A S S' : Ps} (h : MgS A S) (k : MgS A S') : S = S' :=
  List.Perm.eq_of_pairwise (le := Lt) (fun a b _ _ h1 h2 => by
    have h1' : ordK a.1 b.1 < 0 := h1
    have h2' : ordK b.1 a.1 < 0 := h2
    have := ordK_neg a.1 b.1
    omega) h.2 k.2 (h.1.trans k.1.symm)
abbrev Ne9 (p q : List Nat × List Nat) : Prop := ordK p.1 q.1 ≠ 0
theorem ne9_symm {p q : List Nat × List Nat} (e : Ne9 p q) : Ne9 q p := by
  have h1 := ordK_neg p.1 q.1
  have h2 : ordK p.1 q.1 ≠ 0 := e
  show ordK q.1 p.1 ≠ 0
  omega
theorem lt_ne9 {p q : List Nat × List Nat} (e : Lt p q) : Ne9 p q := by
  have h2 : ordK p.1 q.1 < 0 := e
  show ordK p.1 q.1 ≠ 0
  omega
theorem mgs_not {A R : Ps} {a b : List Nat × List Nat} (hp : (a :: b :: R).Perm A) (h : ordK a.1 b.1 = 0) (S : Ps) : ¬ MgS A S := fun ⟨h1, h2⟩ => by
  have h3 : S.Pairwise Ne9 := h2.imp lt_ne9
  have h4 := (List.Perm.pairwise_iff ne9_symm (h1.trans hp.symm)).1 h3
  exact (List.pairwise_cons.1 h4).1 b List.mem_cons_self h
/-- Midway: T taken, R left. -/
structure MI (A R T : Ps) : Prop where
  perm : (T ++ R).Perm A
  str : T.Pairwise Lt
  le : ∀ t ∈ T, ∀ x ∈ R, ordK t.1 x.1 ≤ 0
theorem MI.start (A : Ps) : MI A A [] := ⟨List.Perm.refl _, List.Pairwise.nil, fun _ h => by cases h⟩
theorem MI.done {A T : Ps} (h : MI A [] T) : MgS A T := ⟨by have := h.perm; rwa [List.append_nil] at this, h.str⟩
theorem MI.step {A R R' T : Ps} {x : List Nat × List Nat} (h : MI A R T) (hp : (x :: R').Perm R) (hm : ∀ y ∈ R, ordK x.1 y.1 ≤ 0) (hl : ∀ t, T.getLast? = some t → ordK t.1 x.1 ≠ 0) : MI A R' (T ++ [x]) := by
  have hx : x ∈ R := hp.subset (by simp)
  refine ⟨?_, ?_, ?_⟩
  · rw [List.append_assoc]
    exact (List.Perm.append_left T hp).trans h.perm
  · rw [List.pairwise_append]
    refine ⟨h.str, List.pairwise_singleton _ _, fun t ht y hy => ?_⟩
    rw [List.mem_singleton] at hy
    subst hy
    rcases List.eq_nil_or_concat T with e | ⟨T', z, e⟩
    · rw [e] at ht; cases ht
    · rw [List.concat_eq_append] at e
      have hz := hl z (by rw [e]; simp)
      have hzx := h.le z (by rw [e]; simp) y hx
      rw [e] at ht
      have hs := h.str
      rw [e, List.pairwise_append] at hs
      rcases List.mem_append.1 ht with h1 | h1
      · have h2 : ordK t.1 z.1 < 0 := hs.2.2 t h1 z (by simp)
        exact ord_lt h2 (by omega)
      · rw [List.mem_singleton] at h1
        subst h1
        show ordK t.1 y.1 < 0
        omega
  · intro t ht y hy
    have hyR : y ∈ R := hp.subset (by simp [hy])
    rcases List.mem_append.1 ht with h1 | h1
    · exact h.le t h1 y hyR
    · rw [List.mem_singleton] at h1
      subst h1
      exact hm y hyR
theorem MI.stop {A R R' T : Ps} {x t : List Nat × List Nat} (h : MI A R T) (hp : (x :: R').Perm R) (ht : T.getLast? = some t) (he : ordK t.1 x.1 = 0) (S : Ps) : ¬ MgS A S := by
  rcases List.eq_nil_or_concat T with e | ⟨T', z, e⟩
  · rw [e] at ht; cases ht
  · rw [List.concat_eq_append] at e
    rw [e] at ht
    simp at ht
    subst ht
    refine mgs_not (R := T' ++ R') ?_ he S
    have h1 := h.perm
    rw [e, List.append_assoc] at h1
    refine List.Perm.trans ?_ h1
    have h2 : (T' ++ ([z] ++ R)).Perm (T' ++ ([z] ++ (x :: R'))) := List.Perm.append_left _ (List.Perm.append_left _ hp.symm)
    refine List.Perm.trans ?_ h2.symm
    have h3 : (T' ++ ([z] ++ (x :: R'))).Perm (([z] ++ (x :: R')) ++ T') := List.perm_append_comm
    refine List.Perm.trans ?_ h3.symm
    simp only [List.cons_append, List.nil_append]
    exact List.Perm.cons _ (List.Perm.cons _ List.perm_append_comm)
/-- Is a user key in a span? -/
def inSp (sp : Ps) (u : List Nat) : Bool := sp.any fun s => decide (cmpN s.1 u ≤ 0) && decide (cmpN u s.2 ≤ 0)
def seqA (S : Ps) (i : Nat) : Nat := tailN (kA S i) / 256
/-- Does entry i stay? -/
def stay (old : Nat) (sp S : Ps) (i : Nat) : Bool := !(decide (0 < i) && (decide (userL (kA S i) = userL (kA S (i - 1))) && decide (seqA S (i - 1) ≤ old))) && !(decide (tailN (kA S i) % 256 = 0) && (decide (seqA S i ≤ old) && !inSp sp (userL (kA S i))))
def kept (old : Nat) (sp S : Ps) : Nat → Ps
  | 0 => []
  | i + 1 => kept old sp S i ++ (if stay old sp S i then [(kA S i, vA S i)] else [])
theorem kept_len (old : Nat) (sp S : Ps) : ∀ i, (kept old sp S i).length ≤ i
  | 0 => by simp [kept]
  | i + 1 => by
    have := kept_len old sp S i
    rw [kept, List.length_append]
    split <;> simp <;> omega
theorem kept_app (old : Nat) (sp S T : Ps) : ∀ i, i ≤ S.length → kept old sp (S ++ T) i = kept old sp S i
  | 0, _ => rfl
  | i + 1, h => by
    have e : ∀ j, j < S.length → kA (S ++ T) j = kA S j ∧ vA (S ++ T) j = vA S j := fun j hj => by
      unfold kA vA; rw [List.getElem?_append_left hj]; exact ⟨rfl, rfl⟩
    have e1 : stay old sp (S ++ T) i = stay old sp S i := by
      unfold stay seqA
      rw [(e i (by omega)).1, (e (i - 1) (by omega)).1]
    rw [kept, kept, kept_app old sp S T i (by omega), e1, (e i (by omega)).1, (e i (by omega)).2]
/-- The first so many of what is taken, in order: of one user key the moments fall. -/
theorem seq_falls {S : Ps} (h : S.Pairwise Lt) {i : Nat} (hi : i + 1 < S.length) (hu : userL (kA S (i + 1)) = userL (kA S i)) : seqA S (i + 1) ≤ seqA S i := by
  have hp := List.pairwise_iff_getElem.1 h i (i + 1) (by omega) hi (by omega)
  have hp' : ordK (kA S i) (kA S (i + 1)) < 0 := by
    rw [(kA_at (List.getElem?_eq_getElem (show i < S.length by omega))).1, (kA_at (List.getElem?_eq_getElem hi)).1]; exact hp
  unfold seqA
  unfold ordK at hp'
  rw [ordP_def, hu, if_pos ((cmpN_eq _ _).2 rfl)] at hp'
  have := ord2_cases ((tailN (kA S i) / 256 : Nat) : Int) ((tailN (kA S (i + 1)) / 256 : Nat) : Int) ((tailN (kA S i) % 256 : Nat) : Int) ((tailN (kA S (i + 1)) % 256 : Nat) : Int)
  omega
/-- User keys don't fall. -/
theorem user_rises {S : Ps} (h : S.Pairwise Lt) {i j : Nat} (hij : i ≤ j) (hj : j < S.length) : cmpN (userL (kA S i)) (userL (kA S j)) ≤ 0 := by
  rcases Nat.lt_or_ge i j with hlt | hge
  · have hp := List.pairwise_iff_getElem.1 h i j (by omega) hj hlt
    have hp' : ordK (kA S i) (kA S j) < 0 := by
      rw [(kA_at (List.getElem?_eq_getElem (show i < S.length by omega))).1, (kA_at (List.getElem?_eq_getElem hj)).1]; exact hp
    unfold ordK at hp'
    rw [ordP_def] at hp'
    by_cases e : cmpN (userL (kA S i)) (userL (kA S j)) = 0
    · omega
    · rw [if_neg e] at hp'; omega
  · rw [show j = i by omega, (cmpN_eq _ _).2 rfl]; omega
end Go.Proofs.Ythmlpjogbdpgiaa
