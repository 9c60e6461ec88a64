/-
  Heaps of lists that rise, without the program.
-/
import Derived.Test.YthmlpjogbdpgiaaXN
import Derived.Test.YthmlpjogbdpgiaaJ07
namespace Go.Proofs.Ythmlpjogbdpgiaa

def HeapB (q : Nat → List Nat) (n : Nat) : Prop := ∀ k, 0 < k → k < n → ordK (q ((k - 1) / 2)) (q k) ≤ 0
/-- A heap but for place j, which may stand too deep. -/
structure UpI (q : Nat → List Nat) (n j : Nat) : Prop where
  oth : ∀ k, 0 < k → k < n → k ≠ j → ordK (q ((k - 1) / 2)) (q k) ≤ 0
  gr : ∀ k, 0 < j → 0 < k → k < n → (k - 1) / 2 = j → ordK (q ((j - 1) / 2)) (q k) ≤ 0
/-- A heap but for place i, which may stand too high. -/
structure DnI (q : Nat → List Nat) (n i : Nat) : Prop where
  oth : ∀ k, 0 < k → k < n → (k - 1) / 2 ≠ i → ordK (q ((k - 1) / 2)) (q k) ≤ 0
  gr : ∀ k, 0 < i → 0 < k → k < n → (k - 1) / 2 = i → ordK (q ((i - 1) / 2)) (q k) ≤ 0
def sw (q : Nat → List Nat) (i j k : Nat) : List Nat := if k = i then q j else if k = j then q i else q k
theorem sw_i (q : Nat → List Nat) (i j : Nat) : sw q i j i = q j := by unfold sw; rw [if_pos rfl]
theorem sw_j (q : Nat → List Nat) (i j : Nat) : sw q i j j = q i := by
  unfold sw
  by_cases h : j = i
  · rw [if_pos h, h]
  · rw [if_neg h, if_pos rfl]
theorem sw_o (q : Nat → List Nat) {i j k : Nat} (h1 : k ≠ i) (h2 : k ≠ j) : sw q i j k = q k := by unfold sw; rw [if_neg h1, if_neg h2]
theorem ordK_refl (a : List Nat) : ordK a a ≤ 0 := by have := ordK_neg a a; omega
theorem up_step {q : Nat → List Nat} {n j p : Nat} (h : UpI q n j) (hj : 0 < j) (hn : j < n) (hp : p = (j - 1) / 2) (hlt : ordK (q j) (q p) < 0) : UpI (sw q p j) n p := by
  have hpj : p ≠ j := by omega
  refine ⟨fun k h0 h1 h2 => ?_, fun k h0 h1 h2 h3 => ?_⟩
  · by_cases hkj : k = j
    · subst hkj
      rw [← hp, sw_i, sw_j]; omega
    · rw [sw_o q h2 hkj]
      by_cases e1 : (k - 1) / 2 = p
      · rw [e1, sw_i]
        have := h.oth k h0 h1 hkj
        rw [e1] at this
        exact ordK_trans _ _ _ (by omega) this
      · by_cases e2 : (k - 1) / 2 = j
        · rw [e2, sw_j, hp]
          exact h.gr k hj h0 h1 e2
        · rw [sw_o q e1 e2]
          exact h.oth k h0 h1 hkj
  · have g1 : (p - 1) / 2 ≠ p := by omega
    have g2 : (p - 1) / 2 ≠ j := by omega
    rw [sw_o q g1 g2]
    have hgp := h.oth p h0 (by omega) hpj
    by_cases hkj : k = j
    · subst hkj; rw [sw_j]; exact hgp
    · rw [sw_o q (by omega) hkj]
      have := h.oth k h1 h2 hkj
      rw [h3] at this
      exact ordK_trans _ _ _ hgp this
theorem up_done {q : Nat → List Nat} {n j : Nat} (h : UpI q n j) (hd : j = 0 ∨ 0 ≤ ordK (q j) (q ((j - 1) / 2))) : HeapB q n := fun k h0 h1 => by
  by_cases e : k = j
  · subst e
    rcases hd with hd | hd
    · omega
    · rw [ordK_neg]; omega
  · exact h.oth k h0 h1 e
theorem dn_step {q : Nat → List Nat} {n i c : Nat} (h : DnI q n i) (hc0 : 0 < c) (hcn : c < n) (hci : (c - 1) / 2 = i) (hmin : ∀ d, 0 < d → d < n → (d - 1) / 2 = i → ordK (q c) (q d) ≤ 0) (hlt : ordK (q c) (q i) < 0) : DnI (sw q i c) n c := by
  have hic : i < c := by omega
  refine ⟨fun k h0 h1 h2 => ?_, fun k h0 h1 h2 h3 => ?_⟩
  · by_cases ek : k = c
    · subst ek
      rw [hci, sw_i, sw_j]; omega
    · by_cases ei : k = i
      · subst ei
        rw [sw_i, sw_o q (by omega) (by omega)]
        exact h.gr c h0 hc0 hcn hci
      · rw [sw_o q ei ek]
        by_cases e1 : (k - 1) / 2 = i
        · rw [e1, sw_i]; exact hmin k h0 h1 e1
        · rw [sw_o q e1 h2]; exact h.oth k h0 h1 e1
  · rw [hci, sw_i, sw_o q (by omega) (by omega)]
    have := h.oth k h1 h2 (by omega)
    rwa [h3] at this
theorem dn_done {q : Nat → List Nat} {n i : Nat} (h : DnI q n i) (hd : ∀ c, 0 < c → c < n → (c - 1) / 2 = i → ordK (q i) (q c) ≤ 0) : HeapB q n := fun k h0 h1 => by
  by_cases e : (k - 1) / 2 = i
  · rw [e]; exact hd k h0 h1 e
  · exact h.oth k h0 h1 e
theorem heap_min {q : Nat → List Nat} {n : Nat} (h : HeapB q n) : ∀ (m k : Nat), k ≤ m → k < n → ordK (q 0) (q k) ≤ 0
  | 0, k, hk, _ => by rw [show k = 0 by omega]; exact ordK_refl _
  | m + 1, k, hk, hn => by
    by_cases h0 : k = 0
    · rw [h0]; exact ordK_refl _
    · exact ordK_trans _ _ _ (heap_min h m ((k - 1) / 2) (by omega) (by omega)) (h k (by omega) hn)
theorem heap_up {q : Nat → List Nat} {n : Nat} (h : HeapB q n) : UpI q (n + 1) n := ⟨fun k h0 h1 h2 => h k h0 (by omega), fun k h0 h1 h2 h3 => by omega⟩
theorem heap_dn0 {q q' : Nat → List Nat} {n m : Nat} (h : HeapB q n) (hm : m ≤ n) (hq : ∀ k, 0 < k → k < m → q' k = q k) : DnI q' m 0 := ⟨fun k h0 h1 h2 => by
  rw [hq k h0 h1, hq _ (by omega) (by omega)]; exact h k h0 (by omega), fun k h0 => by omega⟩
theorem up0 {q : Nat → List Nat} {n : Nat} (h : HeapB q n) : UpI q n 0 := ⟨fun k h0 h1 _ => h k h0 h1, fun k h0 => by omega⟩

/-- The first key of what is left of a list. -/
def hk (hs : List Ps) (i : Nat) : List Nat := kA (hs[i]?.getD []) 0
theorem hk_at {hs : List Ps} {i : Nat} {p : Ps} (h : hs[i]? = some p) : hk hs i = kA p 0 := by unfold hk; rw [h]; rfl
def swL (hs : List Ps) (i j : Nat) : List Ps := (hs.set i (hs[j]?.getD [])).set j (hs[i]?.getD [])
theorem swL_len (hs : List Ps) (i j : Nat) : (swL hs i j).length = hs.length := by unfold swL; rw [List.length_set, List.length_set]
theorem swL_perm {hs : List Ps} {i j : Nat} (hi : i < hs.length) (hj : j < hs.length) : (swL hs i j).Perm hs := by
  unfold swL
  rw [List.getElem?_eq_getElem hi, List.getElem?_eq_getElem hj]
  exact List.set_set_perm hi hj
theorem swL_at {hs : List Ps} {i j : Nat} (hi : i < hs.length) (hj : j < hs.length) (k : Nat) : (swL hs i j)[k]? = if k = j then hs[i]? else if k = i then hs[j]? else hs[k]? := by
  unfold swL
  rw [List.getElem?_set, List.getElem?_set, List.length_set]
  by_cases e1 : j = k
  · subst e1
    rw [if_pos rfl, if_pos hj, if_pos rfl, List.getElem?_eq_getElem hi]; rfl
  · rw [if_neg e1, if_neg (show ¬ k = j from fun e => e1 e.symm)]
    by_cases e2 : i = k
    · subst e2
      rw [if_pos rfl, if_pos hi, if_pos rfl, List.getElem?_eq_getElem hj]; rfl
    · rw [if_neg e2, if_neg (show ¬ k = i from fun e => e2 e.symm)]
theorem hk_sw {hs : List Ps} {i j : Nat} (hi : i < hs.length) (hj : j < hs.length) (k : Nat) : hk (swL hs i j) k = sw (hk hs) i j k := by
  show kA ((swL hs i j)[k]?.getD []) 0 = if k = i then kA (hs[j]?.getD []) 0 else if k = j then kA (hs[i]?.getD []) 0 else kA (hs[k]?.getD []) 0
  rw [swL_at hi hj]
  by_cases e2 : k = j
  · rw [if_pos e2]
    by_cases e1 : k = i
    · rw [if_pos e1, ← e1, ← e2]
    · rw [if_neg e1, if_pos e2]
  · rw [if_neg e2]
    by_cases e1 : k = i
    · rw [if_pos e1, if_pos e1]
    · rw [if_neg e1, if_neg e1, if_neg e2]
end Go.Proofs.Ythmlpjogbdpgiaa
