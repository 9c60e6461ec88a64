/-
  Heaps of lists that rise, without the program.
-/
import Derived.Test.YthmlpjogbdpgiaaJ08
import Derived.Test.YthmlpjogbdpgiaaJ05
namespace Go.Proofs.Ythmlpjogbdpgiaa

def HeapB (q : Nat → List Nat) (n : Nat) : Prop := ∀ k, 0 < k → k < n → ordK (q ((k - 1) / 2)) (q k) ≤ 0
/-- A heap but for place j, which may stand too deep. -/
structure UpI (q : Nat → List Nat) (n j : Nat) : Prop where
  oth : ∀ k, 0 < k → k < n → k ≠ j → ordK (q ((k - 1) / 2)) (q k) ≤ 0
  gr : ∀ k, 0 < j → 0 < k → k < n → (k - 1) / 2 = j → ordK (q ((j - 1) / 2)) (q k) ≤ 0
/-- A heap but for place i, which may stand too high. -/
structure DnI (q : Nat → List Nat) (n i : Nat) : Prop where
  oth : ∀ k, 0 < k → k < n → (k - 1) / 2 ≠ i → ordK (q ((k - 1) / 2)) (q k) ≤ 0
  gr : ∀ k, 0 < i → 0 < k → k < n → (k - 1) / 2 = i → ordK (q ((i - 1) / 2)) (q k) ≤ 0
def sw (q : Nat → List Nat) (i j k : Nat) : List Nat := if k = i then q j else if k = j then q i else q k
theorem sw_i (q : Nat → List Nat) (i j : Nat) : sw q i j i = q j := by unfold sw; rw [if_pos rfl]
theorem sw_j (q : Nat → List Nat) (i j : Nat) : sw q i j j = q i := by
  unfold sw
  by_cases h : j = i
  · rw [if_pos h, h]
  · rw [if_neg h, if_pos rfl]
theorem sw_o (q : Nat → List Nat) {i j k : Nat} (h1 : k ≠ i) (h2 : k ≠ j) : sw q i j k = q k := by unfold sw; rw [if_neg h1, if_neg h2]
theorem ordK_refl (a : List Nat) : ordK a a ≤ 0 := by have := ordK_neg a a; omega
theorem up_step {q : Nat → List Nat} {n j p : Nat} (h : UpI q n j) (hj : 0 < j) (hn : j < n) (hp : p = (j - 1) / 2) (hlt : ordK (q j) (q p) < 0) : UpI (sw q p j) n p := by
  have hpj : p ≠ j := by omega
  refine ⟨fun k h0 h1 h2 => ?_, fun k h0 h1 h2 h3 => ?_⟩
  · by_cases hkj : k = j
    · subst hkj
      rw [← hp, sw_i, sw_j]; omega
    · rw [sw_o q h2 hkj]
      by_cases e1 : (k - 1) / 2 = p
      · rw [e1, sw_i]
        have := h.oth k h0 h1 hkj
        rw [e1] at this
        exact ordK_trans _ _ _ (by omega) this
      · by_cases e2 : (k - 1) / 2 = j
        · rw [e2, sw_j, hp]
          exact h.gr k hj h0 h1 e2
        · rw [sw_o q e1 e2]
          exact h.oth k h0 h1 hkj
  · have g1 : (p - 1) / 2 ≠ p := by omega
    have g2 : (p - 1) / 2 ≠ j := by omega
    rw [sw_o q g1 g2]
    have hgp := h.oth p h0 (by omega) hpj
    by_cases hkj : k = j
    · subst hkj; rw [sw_j]; exact hgp
    · rw [sw_o q (by omega) hkj]
      have := h.oth k h1 h2 hkj
      rw [h3] at this
      exact ordK_trans _ _ _ hgp this
theorem up_done {q : Nat → List Nat} {n j : Nat} (h : UpI q n j) (hd : j = 0 ∨ 0 ≤ ordK (q j) (q ((j - 1) / 2))) : HeapB q n := fun k h0 h1 => by
  by_cases e : k = j
  · subst e
    rcases hd with hd | hd
    · omega
    · rw [ordK_neg]; omega
  · exact h.oth k h0 h1 e
theorem dn_step {q : Nat → List Nat} {n i c : Nat} (h : DnI q n i) (hc0 : 0 < c) (hcn : c < n) (hci : (c - 1) / 2 = i) (hmin : ∀ d, 0 < d → d < n → (d - 1) / 2 = i → ordK (q c) (q d) ≤ 0) (hlt : ordK (q c) (q i) < 0) : DnI (sw q i c) n c := by
  have hic : i < c := by omega
  refine ⟨fun k h0 h1 h2 => ?_, fun k h0 h1 h2 h3 => ?_⟩
  · by_cases ek : k = c
    · subst ek
      rw [hci, sw_i, sw_j]; omega
    · by_cases ei : k = i
      · subst ei
        rw [sw_i, sw_o q (by omega) (by omega)]
        exact h.gr c h0 hc0 hcn hci
      · rw [sw_o q ei ek]
        by_cases e1 : (k - 1) / 2 = i
        · rw [e1, sw_i]; exact hmin k h0 h1 e1
        · rw [sw_o q e1 h2]; exact h.oth k h0 h1 e1
  · rw [hci, sw_i, sw_o q (by omega) (by omega)]
    have := h.oth k h1 h2 (by omega)
    rwa [h3] at this
theorem dn_done {q : Nat → List Nat} {n i : Nat} (h : DnI q n i) (hd : ∀ c, 0 < c → c < n → (c - 1) / 2 = i → ordK (q i) (q c) ≤ 0) : HeapB q n := fun k h0 h1 => by
  by_cases e : (k - 1) / 2 = i
  · rw [e]; exact hd k h0 h1 e
  · exact h.oth k h0 h1 e
theorem heap_min {q : Nat → List Nat} {n : Nat} (h : HeapB q n) : ∀ (m k : Nat), k ≤ m → k < n → ordK (q 0) (q k) ≤ 0
  | 0, k, hk, _ => by rw [show k = 0 by omega]; exact ordK_refl _
  | m + 1, k, hk, hn => by
    by_cases h0 : k = 0
    · rw [h0]; exact ordK_refl _
    · exact ordK_trans _ _ _ (heap_min h m ((k - 1) / 2) (by omega) (by omega)) (h k (by omega) hn)
theorem heap_up {q : Nat → List Nat} {n : Nat} (h : HeapB q n) : UpI q (n + 1) n := ⟨fun k h0 h1 h2 => h k h0 (by omega), fun k h0 h1 h2 h3 => by omega⟩
theorem heap_dn0 {q q' : Nat → List Nat} {n m : Nat} (h : HeapB q n) (hm : m ≤ n) (hq : ∀ k, 0 < k → k < m → q' k = q k) : DnI q' m 0 := ⟨fun k h0 h1 h2 => by
  rw [hq k h0 h1, hq _ (by omega) (by omega)]; exact h k h0 (by omega), fun k h0 => by omega⟩
theorem up0 {q : Nat → List Nat} {n : Nat} (h : HeapB q n) : UpI q n 0 := ⟨fun k h0 h1 _ => h k h0 h1, fun k h0 => by omega⟩

/-- The first key of what is left of a list. -/
def hk (hs : List Ps) (i : Nat) : List Nat := kA (hs[i]?.getD []) 0
theorem hk_at {hs : List Ps} {i : Nat} {p : Ps} (h : hs[i]? = some p) : hk hs i = kA p 0 := by unfold hk; rw [h]; rfl
def swL (hs : List Ps) (i j : Nat) : List Ps := (hs.set i (hs[j]?.getD [])).set j (hs[i]?.getD [])
theorem swL_len (hs : List Ps) (i j : Nat) : (swL hs i j).length = hs.length := by unfold swL; rw [List.length_set, List.length_set]
theorem swL_perm {hs : List Ps} {i j : Nat} (hi : i < hs.length) (hj : j < hs.length) : (swL hs i j).Perm hs := by
  unfold swL
  rw [List.getElem?_eq_getElem hi, List.getElem?_eq_getElem hj]
  exact List.set_set_perm hi hj
theorem swL_at {hs : List Ps} {i j : Nat} (hi : i < hs.length) (hj : j < hs.length) (k : Nat) : (swL hs i j)[k]? = if k = j then hs[i]? else if k = i then hs[j]? else hs[k]? := by
  unfold swL
  rw [List.getElem?_set, List.getElem?_set, List.length_set]
  by_cases e1 : j = k
  · subst e1
    rw [if_pos rfl, if_pos hj, if_pos rfl, List.getElem?_eq_getElem hi]; rfl
  · rw [if_neg e1, if_neg (show ¬ k = j from fun e => e1 e.symm)]
    by_cases e2 : i = k
    · subst e2
      rw [if_pos rfl, if_pos hi, if_pos rfl, List.getElem?_eq_getElem hj]; rfl
    · rw [if_neg e2, if_neg (show ¬ k = i from fun e => e2 e.symm)]
theorem hk_sw {hs : List Ps} {i j : Nat} (hi : i < hs.length) (hj : j < hs.length) (k : Nat) : hk (swL hs i j) k = sw (hk hs) i j k := by
  show kA ((swL hs i j)[k]?.getD []) 0 = if k = i then kA (hs[j]?.getD []) 0 else if k = j then kA (hs[i]?.getD []) 0 else kA (hs[k]?.getD []) 0
  rw [swL_at hi hj]
  by_cases e2 : k = j
  · rw [if_pos e2]
    by_cases e1 : k = i
    · rw [if_pos e1, ← e1, ← e2]
    · rw [if_neg e1, if_pos e2]
  · rw [if_neg e2]
    by_cases e1 : k = i
    · rw [if_pos e1, if_pos e1]
    · rw [if_neg e1, if_neg e1, if_neg e2]
end Go.Proofs.Ythmlpjogbdpgiaa
namespace Go.Proofs.Ythmlpjogbdpgiaa

abbrev Lt (p q : List Nat × List Nat) : Prop := ordK p.1 q.1 < 0
/-- All entries in order, no key twice. -/
def MgS (A S : Ps) : Prop := S.Perm A ∧ S.Pairwise Lt
theorem MgS.one {A S S' : Ps} (h : MgS A S) (k : MgS A S') : S = S' :=
  List.Perm.eq_of_pairwise (le := Lt) (fun a b _ _ h1 h2 => by
    have h1' : ordK a.1 b.1 < 0 := h1
    have h2' : ordK b.1 a.1 < 0 := h2
    have := ordK_neg a.1 b.1
    omega) h.2 k.2 (h.1.trans k.1.symm)
abbrev Ne9 (p q : List Nat × List Nat) : Prop := ordK p.1 q.1 ≠ 0
theorem ne9_symm {p q : List Nat × List Nat} (e : Ne9 p q) : Ne9 q p := by
  have h1 := ordK_neg p.1 q.1
  have h2 : ordK p.1 q.1 ≠ 0 := e
  show ordK q.1 p.1 ≠ 0
  omega
theorem lt_ne9 {p q : List Nat × List Nat} (e : Lt p q) : Ne9 p q := by
  have h2 : ordK p.1 q.1 < 0 := e
  show ordK p.1 q.1 ≠ 0
  omega
theorem mgs_not {A R : Ps} {a b : List Nat × List Nat} (hp : (a :: b :: R).Perm A) (h : ordK a.1 b.1 = 0) (S : Ps) : ¬ MgS A S := fun ⟨h1, h2⟩ => by
  have h3 : S.Pairwise Ne9 := h2.imp lt_ne9
  have h4 := (List.Perm.pairwise_iff ne9_symm (h1.trans hp.symm)).1 h3
  exact (List.pairwise_cons.1 h4).1 b List.mem_cons_self h
/-- Midway: T taken, R left. -/
structure MI (A R T : Ps) : Prop where
  perm : (T ++ R).Perm A
  str : T.Pairwise Lt
  le : ∀ t ∈ T, ∀ x ∈ R, ordK t.1 x.1 ≤ 0
theorem MI.start (A : Ps) : MI A A [] := ⟨List.Perm.refl _, List.Pairwise.nil, fun _ h => by cases h⟩
theorem MI.done {A T : Ps} (h : MI A [] T) : MgS A T := ⟨by have := h.perm; rwa [List.append_nil] at this, h.str⟩
theorem MI.step {A R R' T : Ps} {x : List Nat × List Nat} (h : MI A R T) (hp : (x :: R').Perm R) (hm : ∀ y ∈ R, ordK x.1 y.1 ≤ 0) (hl : ∀ t, T.getLast? = some t → ordK t.1 x.1 ≠ 0) : MI A R' (T ++ [x]) := by
  have hx : x ∈ R := hp.subset (by simp)
  refine ⟨?_, ?_, ?_⟩
  · rw [List.append_assoc]
    exact (List.Perm.append_left T hp).trans h.perm
  · rw [List.pairwise_append]
    refine ⟨h.str, List.pairwise_singleton _ _, fun t ht y hy => ?_⟩
    rw [List.mem_singleton] at hy
    subst hy
    rcases List.eq_nil_or_concat T with e | ⟨T', z, e⟩
    · rw [e] at ht; cases ht
    · rw [List.concat_eq_append] at e
      have hz := hl z (by rw [e]; simp)
      have hzx := h.le z (by rw [e]; simp) y hx
      rw [e] at ht
      have hs := h.str
      rw [e, List.pairwise_append] at hs
      rcases List.mem_append.1 ht with h1 | h1
      · have h2 : ordK t.1 z.1 < 0 := hs.2.2 t h1 z (by simp)
        exact ord_lt h2 (by omega)
      · rw [List.mem_singleton] at h1
        subst h1
        show ordK t.1 y.1 < 0
        omega
  · intro t ht y hy
    have hyR : y ∈ R := hp.subset (by simp [hy])
    rcases List.mem_append.1 ht with h1 | h1
    · exact h.le t h1 y hyR
    · rw [List.mem_singleton] at h1
      subst h1
      exact hm y hyR
theorem MI.stop {A R R' T : Ps} {x t : List Nat × List Nat} (h : MI A R T) (hp : (x :: R').Perm R) (ht : T.getLast? = some t) (he : ordK t.1 x.1 = 0) (S : Ps) : ¬ MgS A S := by
  rcases List.eq_nil_or_concat T with e | ⟨T', z, e⟩
  · rw [e] at ht; cases ht
  · rw [List.concat_eq_append] at e
    rw [e] at ht
    simp at ht
    subst ht
    refine mgs_not (R := T' ++ R') ?_ he S
    have h1 := h.perm
    rw [e, List.append_assoc] at h1
    refine List.Perm.trans ?_ h1
    have h2 : (T' ++ ([z] ++ R)).Perm (T' ++ ([z] ++ (x :: R'))) := List.Perm.append_left _ (List.Perm.append_left _ hp.symm)
    refine List.Perm.trans ?_ h2.symm
    have h3 : (T' ++ ([z] ++ (x :: R'))).Perm (([z] ++ (x :: R')) ++ T') := List.perm_append_comm
    refine List.Perm.trans ?_ h3.symm
    simp only [List.cons_append, List.nil_append]
    exact List.Perm.cons _ (List.Perm.cons _ List.perm_append_comm)
/-- Is a user key in a span? -/
def inSp (sp : Ps) (u : List Nat) : Bool := sp.any fun s => decide (cmpN s.1 u ≤ 0) && decide (cmpN u s.2 ≤ 0)
def seqA (S : Ps) (i : Nat) : Nat := tailN (kA S i) / 256
/-- Does entry i stay? -/
def stay (old : Nat) (sp S : Ps) (i : Nat) : Bool := !(decide (0 < i) && (decide (userL (kA S i) = userL (kA S (i - 1))) && decide (seqA S (i - 1) ≤ old))) && !(decide (tailN (kA S i) % 256 = 0) && (decide (seqA S i ≤ old) && !inSp sp (userL (kA S i))))
def kept (old : Nat) (sp S : Ps) : Nat → Ps
  | 0 => []
  | i + 1 => kept old sp S i ++ (if stay old sp S i then [(kA S i, vA S i)] else [])
theorem kept_len (old : Nat) (sp S : Ps) : ∀ i, (kept old sp S i).length ≤ i
  | 0 => by simp [kept]
  | i + 1 => by
    have := kept_len old sp S i
    rw [kept, List.length_append]
    split <;> simp <;> omega
theorem kept_app (old : Nat) (sp S T : Ps) : ∀ i, i ≤ S.length → kept old sp (S ++ T) i = kept old sp S i
  | 0, _ => rfl
  | i + 1, h => by
    have e : ∀ j, j < S.length → kA (S ++ T) j = kA S j ∧ vA (S ++ T) j = vA S j := fun j hj => by
      unfold kA vA; rw [List.getElem?_append_left hj]; exact ⟨rfl, rfl⟩
    have e1 : stay old sp (S ++ T) i = stay old sp S i := by
      unfold stay seqA
      rw [(e i (by omega)).1, (e (i - 1) (by omega)).1]
    rw [kept, kept, kept_app old sp S T i (by omega), e1, (e i (by omega)).1, (e i (by omega)).2]
/-- The first so many of what is taken, in order: of one user key the moments fall. -/
theorem seq_falls {S : Ps} (h : S.Pairwise Lt) {i : Nat} (hi : i + 1 < S.length) (hu : userL (kA S (i + 1)) = userL (kA S i)) : seqA S (i + 1) ≤ seqA S i := by
  have hp := List.pairwise_iff_getElem.1 h i (i + 1) (by omega) hi (by omega)
  have hp' : ordK (kA S i) (kA S (i + 1)) < 0 := by
    rw [(kA_at (List.getElem?_eq_getElem (show i < S.length by omega))).1, (kA_at (List.getElem?_eq_getElem hi)).1]; exact hp
  unfold seqA
  unfold ordK at hp'
  rw [ordP_def, hu, if_pos ((cmpN_eq _ _).2 rfl)] at hp'
  have := ord2_cases ((tailN (kA S i) / 256 : Nat) : Int) ((tailN (kA S (i + 1)) / 256 : Nat) : Int) ((tailN (kA S i) % 256 : Nat) : Int) ((tailN (kA S (i + 1)) % 256 : Nat) : Int)
  omega
/-- User keys don't fall. -/
theorem user_rises {S : Ps} (h : S.Pairwise Lt) {i j : Nat} (hij : i ≤ j) (hj : j < S.length) : cmpN (userL (kA S i)) (userL (kA S j)) ≤ 0 := by
  rcases Nat.lt_or_ge i j with hlt | hge
  · have hp := List.pairwise_iff_getElem.1 h i j (by omega) hj hlt
    have hp' : ordK (kA S i) (kA S j) < 0 := by
      rw [(kA_at (List.getElem?_eq_getElem (show i < S.length by omega))).1, (kA_at (List.getElem?_eq_getElem hj)).1]; exact hp
    unfold ordK at hp'
    rw [ordP_def] at hp'
    by_cases e : cmpN (userL (kA S i)) (userL (kA S j)) = 0
    · omega
    · rw [if_neg e] at hp'; omega
  · rw [show j = i by omega, (cmpN_eq _ _).2 rfl]; omega
end Go.Proofs.Ythmlpjogbdpgiaa
namespace Go.Proofs.Ythmlpjogbdpgiaa

/-- Where cutting stands: pieces that are done, the one under way, its bytes. -/
def cutAt (sz : Nat) (ps : Ps) : Nat → List Ps × Ps × Nat
  | 0 => ([], [], 0)
  | i + 1 => if sz ≤ (cutAt sz ps i).2.2 ∧ userL (kA ps i) ≠ userL (kA ps (i - 1)) then ((cutAt sz ps i).1 ++ [(cutAt sz ps i).2.1], [(kA ps i, vA ps i)], (kA ps i).length + (vA ps i).length)
    else ((cutAt sz ps i).1, (cutAt sz ps i).2.1 ++ [(kA ps i, vA ps i)], (cutAt sz ps i).2.2 + ((kA ps i).length + (vA ps i).length))
def cutF (sz : Nat) (ps : Ps) : List Ps := if ps.length = 0 then [] else (cutAt sz ps ps.length).1 ++ [(cutAt sz ps ps.length).2.1]
/-- Pieces of ps, none empty, no user key in two of them. -/
structure Cuts (ps : Ps) (PP : List Ps) : Prop where
  all : PP.flatten = ps
  pos : ∀ (i : Nat) (p : Ps), PP[i]? = some p → p ≠ []
  two : ∀ (i : Nat), 0 < i → i < PP.length → userL (kA ps ((PP.take i).flatten.length - 1)) ≠ userL (kA ps (PP.take i).flatten.length)
theorem cutAt_ok {sz : Nat} {ps : Ps} (hs : 0 < sz) : ∀ i, i ≤ ps.length →
    ((cutAt sz ps i).1.flatten ++ (cutAt sz ps i).2.1 = ps.take i) ∧ (∀ (k : Nat) (p : Ps), (cutAt sz ps i).1[k]? = some p → p ≠ []) ∧
    (∀ (k : Nat), 0 < k → k ≤ (cutAt sz ps i).1.length → userL (kA ps (((cutAt sz ps i).1.take k).flatten.length - 1)) ≠ userL (kA ps ((cutAt sz ps i).1.take k).flatten.length)) ∧
    ((cutAt sz ps i).2.1 = [] → i = 0 ∧ (cutAt sz ps i).2.2 = 0 ∧ (cutAt sz ps i).1 = []) := by
  intro i
  induction i with
  | zero => intro _; simp [cutAt]; omega
  | succ i ih =>
    intro hi
    obtain ⟨h1, h2, h3, h4⟩ := ih (by omega)
    have e : ps.take (i + 1) = ps.take i ++ [(kA ps i, vA ps i)] := by
      have h0 := ps_at (show i < ps.length by omega)
      obtain ⟨hl, he⟩ := List.getElem?_eq_some_iff.1 h0
      rw [List.take_succ_eq_append_getElem hl, he]
    rw [cutAt]
    by_cases hc : sz ≤ (cutAt sz ps i).2.2 ∧ userL (kA ps i) ≠ userL (kA ps (i - 1))
    · rw [if_pos hc]
      have hne : (cutAt sz ps i).2.1 ≠ [] := fun h => by have := (h4 h).2.1; omega
      have hfl : (((cutAt sz ps i).1 ++ [(cutAt sz ps i).2.1]).flatten).length = i := by
        rw [List.flatten_append, List.flatten_singleton, h1, List.length_take]; omega
      refine ⟨?_, fun k p hk => ?_, fun k hk0 hk => ?_, fun h => by simp at h⟩
      · show ((cutAt sz ps i).1 ++ [(cutAt sz ps i).2.1]).flatten ++ [(kA ps i, vA ps i)] = _
        rw [List.flatten_append, List.flatten_singleton, h1, e]
      · rcases Nat.lt_or_ge k (cutAt sz ps i).1.length with hlt | hge
        · rw [List.getElem?_append_left hlt] at hk
          exact h2 k p hk
        · rw [List.getElem?_append_right hge] at hk
          have : k - (cutAt sz ps i).1.length = 0 := by
            rcases Nat.eq_zero_or_pos (k - (cutAt sz ps i).1.length) with h | h
            · exact h
            · rw [List.getElem?_eq_none (by simp; omega)] at hk; cases hk
          rw [this] at hk
          simp at hk
          subst hk
          exact hne
      · rw [List.length_append, List.length_singleton] at hk
        by_cases hk2 : k ≤ (cutAt sz ps i).1.length
        · rw [List.take_append_of_le_length hk2]
          exact h3 k hk0 hk2
        · rw [List.take_of_length_le (by simp; omega), hfl]
          exact fun h => hc.2 h.symm
    · rw [if_neg hc]
      refine ⟨?_, h2, h3, fun h => by simp at h⟩
      show (cutAt sz ps i).1.flatten ++ ((cutAt sz ps i).2.1 ++ [(kA ps i, vA ps i)]) = _
      rw [← List.append_assoc, h1, e]
theorem cutF_cuts {sz : Nat} {ps : Ps} (hs : 0 < sz) : Cuts ps (cutF sz ps) := by
  unfold cutF
  by_cases h0 : ps.length = 0
  · rw [if_pos h0]
    have : ps = [] := List.eq_nil_of_length_eq_zero h0
    subst this
    exact ⟨rfl, fun i p h => by simp at h, fun i _ h => by simp at h⟩
  · rw [if_neg h0]
    obtain ⟨h1, h2, h3, h4⟩ := cutAt_ok (ps := ps) hs ps.length (Nat.le_refl _)
    rw [List.take_length] at h1
    refine ⟨by rw [List.flatten_append, List.flatten_singleton]; exact h1, fun k p hk => ?_, fun k hk0 hk => ?_⟩
    · rcases Nat.lt_or_ge k (cutAt sz ps ps.length).1.length with hlt | hge
      · rw [List.getElem?_append_left hlt] at hk
        exact h2 k p hk
      · rw [List.getElem?_append_right hge] at hk
        have : k - (cutAt sz ps ps.length).1.length = 0 := by
          rcases Nat.eq_zero_or_pos (k - (cutAt sz ps ps.length).1.length) with h | h
          · exact h
          · rw [List.getElem?_eq_none (by simp; omega)] at hk; cases hk
        rw [this] at hk
        simp at hk
        subst hk
        exact fun h => h0 (h4 h).1
    · rw [List.length_append, List.length_singleton] at hk
      rw [List.take_append_of_le_length (by omega)]
      exact h3 k hk0 (by omega)
theorem cutAt_have {sz : Nat} {ps : Ps} (hl : ∀ p ∈ ps, p.1.length ≤ 140737488355328 ∧ p.2.length ≤ 140737488355328) : ∀ i, i ≤ ps.length → (cutAt sz ps i).2.2 ≤ i * 281474976710656 := by
  intro i
  induction i with
  | zero => intro _; simp [cutAt]
  | succ i ih =>
    intro hi
    have h1 := ih (by omega)
    have h2 := hl _ (List.mem_of_getElem? (ps_at (show i < ps.length by omega)))
    rw [cutAt]
    split
    · show (kA ps i).length + (vA ps i).length ≤ _
      dsimp only at h2
      omega
    · show (cutAt sz ps i).2.2 + ((kA ps i).length + (vA ps i).length) ≤ _
      dsimp only at h2
      omega
theorem cutAt_len {sz : Nat} {ps : Ps} : ∀ i, (cutAt sz ps i).1.length ≤ i ∧ (cutAt sz ps i).2.1.length ≤ i := by
  intro i
  induction i with
  | zero => simp [cutAt]
  | succ i ih =>
    rw [cutAt]
    split
    · simp; omega
    · simp; omega
end Go.Proofs.Ythmlpjogbdpgiaa
