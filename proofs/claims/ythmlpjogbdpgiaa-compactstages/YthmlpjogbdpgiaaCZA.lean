/-
  Merging in two goes, without the program.
-/
import Derived.Test.YthmlpjogbdpgiaaJ37
namespace Go.Proofs.Ythmlpjogbdpgiaa

theorem lt_irr (x : List Nat × List Nat) : ¬ Lt x x := fun h => by
  have h1 : ordK x.1 x.1 < 0 := h
  have := ordK_neg x.1 x.1
  omega
theorem lt_asym {x y : List Nat × List Nat} (h : Lt x y) : ¬ Lt y x := fun h2 => by
  have h1 : ordK x.1 y.1 < 0 := h
  have h3 : ordK y.1 x.1 < 0 := h2
  have := ordK_neg x.1 y.1
  omega
/-- Is an entry one that isn't kept for its own sake? -/
def delP (old : Nat) (sp : Ps) (x : List Nat × List Nat) : Bool := decide (tailN x.1 % 256 = 0) && (decide (tailN x.1 / 256 ≤ old) && !inSp sp (userL x.1))
/-- Does y stand ahead of x, of the same user key, and seen by all? -/
def shadow (old : Nat) (y x : List Nat × List Nat) : Bool := decide (ordK y.1 x.1 < 0) && (decide (userL y.1 = userL x.1) && decide (tailN y.1 / 256 ≤ old))
def keepB (old : Nat) (sp S : Ps) (x : List Nat × List Nat) : Bool := !(S.any fun y => shadow old y x) && !delP old sp x
theorem lt_at {S : Ps} (h : S.Pairwise Lt) {i j : Nat} (hij : i < j) (hj : j < S.length) : ordK (kA S i) (kA S j) < 0 := by
  have hp := List.pairwise_iff_getElem.1 h i j (by omega) hj hij
  rw [(kA_at (List.getElem?_eq_getElem (show i < S.length by omega))).1, (kA_at (List.getElem?_eq_getElem hj)).1]; exact hp
theorem stay_keep {old : Nat} {sp S : Ps} (h : S.Pairwise Lt) {i : Nat} (hi : i < S.length) : stay old sp S i = keepB old sp S (kA S i, vA S i) := by
  have e : (S.any fun y => shadow old y (kA S i, vA S i)) = (decide (0 < i) && (decide (userL (kA S i) = userL (kA S (i - 1))) && decide (seqA S (i - 1) ≤ old))) := by
    rw [Bool.eq_iff_iff]
    simp only [List.any_eq_true, shadow, Bool.and_eq_true, decide_eq_true_eq]
    constructor
    · rintro ⟨y, hy, h1, h2, h3⟩
      obtain ⟨j, hj⟩ := List.getElem?_of_mem hy
      have hjl := (List.getElem?_eq_some_iff.1 hj).1
      have ey := (kA_at hj).1
      rw [← ey] at h1 h2 h3
      have hji : j < i := by
        rcases Nat.lt_trichotomy j i with h0 | h0 | h0
        · exact h0
        · subst h0; have := ordK_neg (kA S j) (kA S j); omega
        · have h4 := lt_at h h0 hjl
          have := ordK_neg (kA S i) (kA S j); omega
      have e2 := same_user h (show j ≤ i - 1 by omega) (show i - 1 ≤ i by omega) hi h2
      have e3 := seq_falls_le h (show j ≤ i - 1 by omega) (show i - 1 < S.length by omega) (h2.trans e2.symm)
      exact ⟨by omega, e2.symm, by unfold seqA at e3 ⊢; omega⟩
    · rintro ⟨h1, h2, h3⟩
      exact ⟨(kA S (i - 1), vA S (i - 1)), List.mem_of_getElem? (ps_at (by omega)), lt_at h (by omega) hi, h2.symm, h3⟩
  unfold keepB stay delP
  rw [e]
  rfl
theorem kept_filter {old : Nat} {sp S : Ps} (h : S.Pairwise Lt) : kept old sp S S.length = S.filter (keepB old sp S) := by
  have key : ∀ n, n ≤ S.length → kept old sp S n = (S.take n).filter (keepB old sp S) := by
    intro n
    induction n with
    | zero => intro _; simp [kept]
    | succ n ih =>
      intro hn
      rw [kept_succ, ih (by omega), take_kA (by omega), List.filter_append, stay_keep h (by omega)]
      congr 1
      simp only [List.filter_cons, List.filter_nil]
  rw [key S.length (Nat.le_refl _), List.take_length]
theorem filter_sub {S : Ps} (h : S.Pairwise Lt) {S2 : Ps} (hs : S2.Sublist S) {p q : (List Nat × List Nat) → Bool} (he : ∀ x ∈ S, (p x = true ↔ x ∈ S2 ∧ q x = true)) : S.filter p = S2.filter q := by
  induction hs with
  | slnil => rfl
  | @cons l1 l2 a hs ih =>
    have hp := List.pairwise_cons.1 h
    have ha : p a = false := by
      rw [Bool.eq_false_iff]
      intro hc
      have h1 := ((he a (by simp)).1 hc).1
      exact lt_irr a (hp.1 a (hs.subset h1))
    rw [List.filter_cons, ha]
    exact ih hp.2 (fun x hx => he x (List.mem_cons_of_mem _ hx))
  | @cons_cons l1 l2 a hs ih =>
    have hp := List.pairwise_cons.1 h
    have ha : p a = q a := by
      rw [Bool.eq_iff_iff]
      rw [he a (by simp)]
      simp
    rw [List.filter_cons, List.filter_cons, ha]
    rw [ih hp.2 (fun x hx => by
      rw [he x (List.mem_cons_of_mem _ hx)]
      constructor
      · rintro ⟨h1, h2⟩
        rcases List.mem_cons.1 h1 with e | e
        · subst e; exact absurd (hp.1 x hx) (lt_irr x)
        · exact ⟨e, h2⟩
      · rintro ⟨h1, h2⟩
        exact ⟨List.mem_cons_of_mem _ h1, h2⟩)]
/-- A part of what has an order has one. -/
theorem MgS.part {A A' S : Ps} (h : MgS A S) (p : A'.Sublist A) : ∃ S', MgS A' S' ∧ S'.Sublist S := by
  obtain ⟨S', h1, h2⟩ := List.exists_perm_sublist p h.1.symm
  exact ⟨S', ⟨h1, h.2.sublist h2⟩, h2⟩
theorem inSp_more {sp be : Ps} {u : List Nat} (h : inSp sp u = true) : inSp (sp ++ be) u = true := by
  unfold inSp at h ⊢
  rw [List.any_append, h]; rfl
/-- The spans of the user keys of some entries. -/
def spU (D : Ps) : Ps := D.map fun x => (userL x.1, userL x.1)
theorem inSp_of {sp D : Ps} {x : List Nat × List Nat} (h : x ∈ D) : inSp (sp ++ spU D) (userL x.1) = true := by
  unfold inSp spU
  rw [List.any_append, Bool.or_eq_true]
  right
  rw [List.any_eq_true]
  refine ⟨(userL x.1, userL x.1), List.mem_map.2 ⟨x, h, rfl⟩, ?_⟩
  have : cmpN (userL x.1) (userL x.1) = 0 := (cmpN_eq _ _).2 rfl
  simp [this]
/-- Merged in two goes. -/
theorem stages {old : Nat} {sp A D S S1 S2 : Ps} (hS : MgS (A ++ D) S) (h1 : MgS A S1) (h2 : MgS (kept old (sp ++ spU D) S1 S1.length ++ D) S2) : kept old sp S2 S2.length = kept old sp S S.length := by
  have hK := kept_filter (old := old) (sp := sp ++ spU D) h1.2
  rw [hK] at h2
  have m1 : ∀ x, x ∈ S1 ↔ x ∈ A := fun x => h1.1.mem_iff
  have m2 : ∀ x, x ∈ S2 ↔ (x ∈ S1 ∧ keepB old (sp ++ spU D) S1 x = true) ∨ x ∈ D := fun x => by
    rw [h2.1.mem_iff, List.mem_append, List.mem_filter]
  have mS : ∀ x, x ∈ S ↔ x ∈ S1 ∨ x ∈ D := fun x => by
    rw [hS.1.mem_iff, List.mem_append, m1]
  obtain ⟨S2', hp, hs⟩ : ∃ S2' : Ps, S2'.Perm S2 ∧ S2'.Sublist S := by
    obtain ⟨l1, g1, g2⟩ := List.exists_perm_sublist (List.filter_sublist (p := keepB old (sp ++ spU D) S1) (l := S1)) h1.1
    obtain ⟨l2, g3, g4⟩ := List.exists_perm_sublist (List.Sublist.append g2 (List.Sublist.refl D)) hS.1.symm
    exact ⟨l2, g3.trans ((List.Perm.append_right D g1).trans h2.1.symm), g4⟩
  have e2 : S2' = S2 := MgS.one (A := S2) ⟨hp, hS.2.sublist hs⟩ ⟨List.Perm.refl _, h2.2⟩
  subst e2
  rw [kept_filter h2.2, kept_filter hS.2]
  symm
  refine filter_sub hS.2 hs (fun x hx => ?_)
  constructor
  · intro hk
    have hk0 := hk
    unfold keepB at hk0
    simp only [Bool.and_eq_true, Bool.not_eq_true', List.any_eq_false] at hk0
    obtain ⟨k1, k2⟩ := hk0
    refine ⟨?_, ?_⟩
    · rw [m2]
      rcases (mS x).1 hx with hx1 | hx1
      · left
        refine ⟨hx1, ?_⟩
        unfold keepB
        simp only [Bool.and_eq_true, Bool.not_eq_true', List.any_eq_false]
        refine ⟨fun y hy => k1 y ((mS y).2 (.inl hy)), ?_⟩
        rw [Bool.eq_false_iff]
        intro hc
        unfold delP at hc
        simp only [Bool.and_eq_true, Bool.not_eq_true', decide_eq_true_eq] at hc
        have hc2 : delP old sp x = true := by
          unfold delP
          simp only [Bool.and_eq_true, Bool.not_eq_true', decide_eq_true_eq]
          refine ⟨hc.1, hc.2.1, ?_⟩
          rw [Bool.eq_false_iff]
          intro hi
          rw [inSp_more hi] at hc
          cases hc.2.2
        rw [hc2] at k2
        cases k2
      · exact .inr hx1
    · unfold keepB
      simp only [Bool.and_eq_true, Bool.not_eq_true', List.any_eq_false]
      exact ⟨fun y hy => k1 y (hs.subset hy), k2⟩
  · rintro ⟨hx2, hk⟩
    unfold keepB at hk ⊢
    simp only [Bool.and_eq_true, Bool.not_eq_true', List.any_eq_false] at hk ⊢
    obtain ⟨k1, k2⟩ := hk
    refine ⟨?_, k2⟩
    have key : ∀ (n : Nat) (y : List Nat × List Nat), S[n]? = some y → ¬ shadow old y x = true := by
      intro n
      induction n using Nat.strongRecOn with
      | ind n ih =>
        intro y hy hc
        have hyS := List.mem_of_getElem? hy
        have hy2 : y ∉ S2' := fun h => k1 y h hc
        have hc0 := hc
        unfold shadow at hc0
        simp only [Bool.and_eq_true, decide_eq_true_eq] at hc0
        obtain ⟨c1, c2, c3⟩ := hc0
        rw [m2] at hy2
        have hyA : y ∈ S1 := by
          rcases (mS y).1 hyS with h | h
          · exact h
          · exact absurd (.inr h) hy2
        have hnk : ¬ keepB old (sp ++ spU D) S1 y = true := fun h => hy2 (.inl ⟨hyA, h⟩)
        unfold keepB at hnk
        rcases hsh : S1.any fun z => shadow old z y with _ | _
        rotate_left
        · rw [List.any_eq_true] at hsh
          obtain ⟨z, hz, hzs⟩ := hsh
          have hzs0 := hzs
          unfold shadow at hzs0
          simp only [Bool.and_eq_true, decide_eq_true_eq] at hzs0
          obtain ⟨d1, d2, d3⟩ := hzs0
          obtain ⟨m, hm⟩ := List.getElem?_of_mem ((mS z).2 (.inl hz))
          have hml := (List.getElem?_eq_some_iff.1 hm).1
          have hnl := (List.getElem?_eq_some_iff.1 hy).1
          have hmn : m < n := by
            rcases Nat.lt_trichotomy m n with h0 | h0 | h0
            · exact h0
            · subst h0; rw [hm] at hy; cases hy; exact absurd d1 (lt_irr _)
            · have h4 := lt_at hS.2 h0 hml
              rw [(kA_at hm).1, (kA_at hy).1] at h4
              exact absurd d1 (lt_asym h4)
          refine ih m hmn z hm ?_
          unfold shadow
          simp only [Bool.and_eq_true, decide_eq_true_eq]
          refine ⟨?_, d2.trans c2, d3⟩
          have h5 := ordK_trans z.1 y.1 x.1 (by omega) (by omega)
          rcases Int.lt_or_eq_of_le h5 with h6 | h6
          · exact h6
          · exfalso
            have h7 := ordK_trans x.1 z.1 y.1 (by have := ordK_neg z.1 x.1; omega) (by omega)
            have := ordK_neg y.1 x.1
            omega
        · rw [hsh] at hnk
          simp only [Bool.not_false, Bool.true_and, Bool.not_eq_true', Bool.not_eq_false] at hnk
          unfold delP at hnk
          simp only [Bool.and_eq_true, Bool.not_eq_true', decide_eq_true_eq] at hnk
          obtain ⟨_, _, n3⟩ := hnk
          rcases (m2 x).1 hx2 with ⟨hx1, hxk⟩ | hxD
          · unfold keepB at hxk
            simp only [Bool.and_eq_true, Bool.not_eq_true', List.any_eq_false] at hxk
            exact hxk.1 y hyA hc
          · rw [c2, inSp_of hxD] at n3
            cases n3
    intro y hy
    obtain ⟨n, hn⟩ := List.getElem?_of_mem hy
    exact key n y hn
end Go.Proofs.Ythmlpjogbdpgiaa
