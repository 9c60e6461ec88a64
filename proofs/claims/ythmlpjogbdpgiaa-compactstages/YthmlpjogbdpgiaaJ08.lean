/-
  How many bytes entries have; few of them.
-/
import Derived.Test.YthmlpjogbdpgiaaJ07
namespace Go.Proofs.Ythmlpjogbdpgiaa

def tot (ps : Ps) : Nat → Nat
  | 0 => 0
  | i + 1 => tot ps i + (kA ps i).length + (vA ps i).length
theorem tot_le (ps : Ps) : ∀ {i j : Nat}, i ≤ j → tot ps i ≤ tot ps j
  | i, 0, h => by have : i = 0 := by omega
                  subst this; exact Nat.le_refl _
  | i, j + 1, h => by
    rcases Nat.eq_or_lt_of_le h with e | h
    · subst e; exact Nat.le_refl _
    · have := tot_le ps (i := i) (j := j) (by omega)
      rw [tot]; omega
theorem ent_le {s : Nat} {k v : List Nat} (hs : s < 18446744073709551616) (hk : k.length < 18446744073709551616) (hv : v.length < 18446744073709551616) : (ent s k v).length ≤ 30 + k.length + v.length := by
  have h1 := putL_len10 hs
  have h2 := putL_len10 (n := k.length - s) (by omega)
  have h3 := putL_len10 hv
  unfold ent
  simp only [List.length_append, List.length_drop]
  omega
theorem bod_tot {ps : Ps} {r : Nat} (h : ∀ i, (kA ps i).length ≤ 1000000000000 ∧ (vA ps i).length ≤ 1000000000000) : ∀ i, (bod r ps i).length ≤ 30 * i + tot ps i
  | 0 => by simp [bod, tot]
  | i + 1 => by
    have ih := bod_tot h (r := r) i
    have hi := h i
    have := (shd_le r ps i).2
    have := ent_le (s := shd r ps i) (k := kA ps i) (v := vA ps i) (by omega) (by omega) (by omega)
    rw [bod, tot, List.length_append]
    omega
theorem tot_at (ps : Ps) {i n : Nat} (h : i < n) : (kA ps i).length + (vA ps i).length ≤ tot ps n := by
  have := tot_le ps (i := i + 1) (j := n) (by omega)
  rw [tot] at this
  omega
theorem small_all {ps : Ps} (h : tot ps ps.length ≤ 5000) : ∀ i, (kA ps i).length ≤ 5000 ∧ (vA ps i).length ≤ 5000 := fun i => by
  by_cases hi : i < ps.length
  · have := tot_at ps hi; omega
  · rw [(kA_out (by omega)).1, (kA_out (by omega)).2]; simp
theorem few_bod {ps : Ps} (h1 : ps.length ≤ 60) (h2 : tot ps ps.length ≤ 5000) (r : Nat) : (bod r ps ps.length).length ≤ 10000 := by
  have := bod_tot (ps := ps) (r := r) (fun i => by have := small_all h2 i; omega) ps.length
  omega

/-- Few entries. -/
structure Few (ps : Ps) : Prop where
  n : ps.length ≤ 60
  t : tot ps ps.length ≤ 5000
end Go.Proofs.Ythmlpjogbdpgiaa
namespace Go.Proofs.Ythmlpjogbdpgiaa

theorem kA_drop (ps : Ps) (a i : Nat) : kA (ps.drop a) i = kA ps (a + i) ∧ vA (ps.drop a) i = vA ps (a + i) := by
  unfold kA vA; rw [List.getElem?_drop]; exact ⟨rfl, rfl⟩
theorem kA_take (ps : Ps) {n i : Nat} (h : i < n) : kA (ps.take n) i = kA ps i ∧ vA (ps.take n) i = vA ps i := by
  unfold kA vA; rw [List.getElem?_take_of_lt h]; exact ⟨rfl, rfl⟩
theorem ord_lt {a b c : List Nat} (h1 : ordK a b < 0) (h2 : ordK b c < 0) : ordK a c < 0 := by
  rcases Int.lt_or_le (ordK a c) 0 with h | h
  · exact h
  · exfalso
    have h3 : ordK c a ≤ 0 := by rw [ordK_neg a c]; omega
    have h4 := ordK_trans c a b h3 (by omega)
    rw [ordK_neg b c] at h4; omega
/-- Keys that rise, of any two of them. -/
def Asc (ps : Ps) : Prop := (∀ p ∈ ps, isK p.1 = true) ∧ ps.Pairwise fun p q => ordK p.1 q.1 < 0
theorem kA_ne {ps : Ps} (hr : Rises ps) {i : Nat} (hi : i < ps.length) : kA ps i ≠ [] := fun e => by
  have := isK_len (flw_isK (hr i hi)); rw [e] at this; simp at this
theorem rises_next {ps : Ps} (hr : Rises ps) {i : Nat} (hi : i + 1 < ps.length) : ordK (kA ps i) (kA ps (i + 1)) < 0 := by
  have h := hr (i + 1) hi
  rw [ahd_succ] at h
  unfold flw at h
  rw [if_neg (kA_ne hr (by omega))] at h
  simp only [Bool.and_eq_true, decide_eq_true_iff] at h
  exact h.2.2
theorem rises_lt {ps : Ps} (hr : Rises ps) {i : Nat} : ∀ (d : Nat), i + d + 1 < ps.length → ordK (kA ps i) (kA ps (i + d + 1)) < 0
  | 0, h => rises_next hr h
  | d + 1, h => ord_lt (rises_lt hr d (by omega)) (rises_next hr h)
theorem rises_ij {ps : Ps} (hr : Rises ps) {i j : Nat} (h : i < j) (hj : j < ps.length) : ordK (kA ps i) (kA ps j) < 0 := by
  have := rises_lt hr (i := i) (j - i - 1) (by omega)
  rwa [show i + (j - i - 1) + 1 = j from by omega] at this
theorem rises_isK {ps : Ps} (hr : Rises ps) {i : Nat} (hi : i < ps.length) : isK (kA ps i) = true := flw_isK (hr i hi)
theorem asc_of {ps : Ps} (hr : Rises ps) : Asc ps := by
  refine ⟨fun p hp => ?_, ?_⟩
  · obtain ⟨i, hi⟩ := List.getElem?_of_mem hp
    have hl := (List.getElem?_eq_some_iff.1 hi).1
    have := rises_isK hr hl
    rwa [(kA_at hi).1] at this
  · rw [List.pairwise_iff_getElem]
    intro i j hi hj hij
    have := rises_ij hr hij hj
    rwa [(kA_at (List.getElem?_eq_getElem hi)).1, (kA_at (List.getElem?_eq_getElem hj)).1] at this
theorem rises_of {ps : Ps} (h : Asc ps) : Rises ps := fun i hi => by
  have hk := h.1 _ (List.mem_of_getElem? (ps_at hi))
  unfold flw ahd
  by_cases h0 : i = 0
  · rw [if_pos (by rw [if_pos h0])]; exact hk
  · rw [if_neg h0]
    have hk' := h.1 _ (List.mem_of_getElem? (ps_at (i := i - 1) (ps := ps) (by omega)))
    have hne : kA ps (i - 1) ≠ [] := fun e => by have := isK_len hk'; rw [e] at this; simp at this
    rw [if_neg hne]
    have hp := List.pairwise_iff_getElem.1 h.2 (i - 1) i (by omega) hi (by omega)
    rw [← (kA_at (List.getElem?_eq_getElem hi)).1, ← (kA_at (List.getElem?_eq_getElem (show i - 1 < ps.length by omega))).1] at hp
    dsimp only at hk hk'
    rw [hk, hk', decide_eq_true hp]; rfl
theorem Asc.sub {ps qs : Ps} (h : Asc ps) (hs : qs.Sublist ps) : Asc qs := ⟨fun p hp => h.1 p (hs.subset hp), h.2.sublist hs⟩
theorem Rises.sub {ps qs : Ps} (h : Rises ps) (hs : qs.Sublist ps) : Rises qs := rises_of ((asc_of h).sub hs)
theorem ByP.sub {ps qs : Ps} (h : ByP ps) (hs : qs.Sublist ps) : ByP qs := fun p hp => h p (hs.subset hp)

/-- How many entries of the beginning fill a block. -/
def filF (most : Nat) (ps : Ps) : Nat → Nat → Nat
  | 0, i => i
  | d + 1, i => if most ≤ tot ps (i + 1) then i + 1 else filF most ps d (i + 1)
def fil (most : Nat) (ps : Ps) : Nat := filF most ps ps.length 0
theorem filF_bd (most : Nat) (ps : Ps) : ∀ (d i : Nat), i ≤ filF most ps d i ∧ filF most ps d i ≤ i + d ∧ (0 < d → i < filF most ps d i)
  | 0, i => by simp [filF]
  | d + 1, i => by
    have := filF_bd most ps d (i + 1)
    unfold filF
    split <;> omega
theorem fil_pos {most : Nat} {ps : Ps} (h : ps ≠ []) : 1 ≤ fil most ps := (filF_bd most ps ps.length 0).2.2 (List.length_pos_iff.2 h)
theorem fil_le (most : Nat) (ps : Ps) : fil most ps ≤ ps.length := by have := (filF_bd most ps ps.length 0).2.1; unfold fil; omega
/-- Entries parted into blocks. -/
def chF (most : Nat) : Nat → Ps → List Ps
  | 0, _ => []
  | f + 1, ps => if ps.length = 0 then [] else ps.take (fil most ps) :: chF most f (ps.drop (fil most ps))
def chs (most : Nat) (ps : Ps) : List Ps := chF most ps.length ps
theorem chF_fuel (most : Nat) : ∀ (f g : Nat) (ps : Ps), ps.length ≤ f → ps.length ≤ g → chF most f ps = chF most g ps
  | 0, 0, _, _, _ => rfl
  | 0, g + 1, ps, h, _ => by rw [chF, chF, if_pos (by omega)]
  | f + 1, 0, ps, _, h => by rw [chF, chF, if_pos (by omega)]
  | f + 1, g + 1, ps, h1, h2 => by
    rw [chF, chF]
    split
    · rfl
    · rename_i hz
      have := fil_pos (most := most) (ps := ps) (by intro e; rw [e] at hz; simp at hz)
      rw [chF_fuel most f g _ (by rw [List.length_drop]; omega) (by rw [List.length_drop]; omega)]
theorem chs_nil (most : Nat) : chs most [] = [] := rfl
theorem chs_cons {most : Nat} {ps : Ps} (h : ps ≠ []) : chs most ps = ps.take (fil most ps) :: chs most (ps.drop (fil most ps)) := by
  have hl := List.length_pos_iff.2 h
  have hp := fil_pos (most := most) h
  unfold chs
  rcases hn : ps.length with _ | n
  · omega
  · rw [chF, if_neg (by omega), chF_fuel most n _ _ (by rw [List.length_drop]; omega) (Nat.le_refl _)]
theorem chF_flat (most : Nat) : ∀ (f : Nat) (ps : Ps), ps.length ≤ f → (chF most f ps).flatten = ps ∧ ∀ c ∈ chF most f ps, c ≠ []
  | 0, ps, h => by
    have : ps = [] := List.eq_nil_of_length_eq_zero (by omega)
    subst this; simp [chF]
  | f + 1, ps, h => by
    rw [chF]
    split
    · rename_i hz
      have : ps = [] := List.eq_nil_of_length_eq_zero hz
      subst this; simp
    · rename_i hz
      have hp := fil_pos (most := most) (ps := ps) (by intro e; rw [e] at hz; simp at hz)
      have ih := chF_flat most f (ps.drop (fil most ps)) (by rw [List.length_drop]; omega)
      refine ⟨by rw [List.flatten_cons, ih.1, List.take_append_drop], fun c hc => ?_⟩
      rcases List.mem_cons.1 hc with rfl | hc
      · intro e
        have := congrArg List.length e
        rw [List.length_take, List.length_nil] at this; omega
      · exact ih.2 c hc
theorem chs_flat (most : Nat) (ps : Ps) : (chs most ps).flatten = ps ∧ ∀ c ∈ chs most ps, c ≠ [] := chF_flat most ps.length ps (Nat.le_refl _)

def sealL (b : List Nat) : List Nat := b ++ fixL (crc b) 4
theorem sealL_len (b : List Nat) : (sealL b).length = b.length + 4 := by unfold sealL; rw [List.length_append, fixL_len]
theorem sealL_by {b : List Nat} (h : By b) : By (sealL b) := h.append (fixL_by _ _)
/-- Data blocks. -/
def datL (r : Nat) (D : List Ps) : List Nat := D.flatMap fun c => sealL (blk r c)
theorem datL_nil (r : Nat) : datL r [] = [] := rfl
theorem datL_cons (r : Nat) (c : Ps) (D : List Ps) : datL r (c :: D) = sealL (blk r c) ++ datL r D := List.flatMap_cons
theorem datL_append (r : Nat) (D E : List Ps) : datL r (D ++ E) = datL r D ++ datL r E := List.flatMap_append
theorem datL_snoc (r : Nat) (D : List Ps) (c : Ps) : datL r (D ++ [c]) = datL r D ++ sealL (blk r c) := by
  rw [datL_append, datL_cons, datL_nil, List.append_nil]
def lastK (c : Ps) : List Nat := kA c (c.length - 1)
/-- The index's entries. -/
def idxF (r : Nat) : Nat → List Ps → Ps
  | _, [] => []
  | t, c :: D => (lastK c, putL t ++ putL (blk r c).length) :: idxF r (t + (blk r c).length + 4) D
theorem idxF_snoc (r : Nat) (c : Ps) : ∀ (D : List Ps) (t : Nat), idxF r t (D ++ [c]) = idxF r t D ++ [(lastK c, putL (t + (datL r D).length) ++ putL (blk r c).length)]
  | [], t => by simp [idxF, datL]
  | d :: D, t => by
    rw [List.cons_append, idxF, idxF_snoc r c D, idxF, datL_cons, List.length_append, sealL_len, List.cons_append, show t + (blk r d).length + 4 + (datL r D).length = t + ((blk r d).length + 4 + (datL r D).length) from by omega]
theorem idxF_len (r : Nat) : ∀ (D : List Ps) (t : Nat), (idxF r t D).length = D.length
  | [], _ => rfl
  | _ :: D, _ => by rw [idxF, List.length_cons, idxF_len r D, List.length_cons]
theorem idxF_at (r : Nat) : ∀ (D : List Ps) (t i : Nat) (c : Ps), D[i]? = some c → (idxF r t D)[i]? = some (lastK c, putL (t + (datL r (D.take i)).length) ++ putL (blk r c).length)
  | [], _, _, _, h => by simp at h
  | d :: D, t, 0, c, h => by
    simp only [List.getElem?_cons_zero, Option.some.injEq] at h
    subst h; rw [idxF, List.getElem?_cons_zero, List.take_zero, datL_nil]; rfl
  | d :: D, t, i + 1, c, h => by
    rw [idxF, List.getElem?_cons_succ, idxF_at r D _ i c (by simpa using h), List.take_succ_cons, datL_cons, List.length_append, sealL_len, show t + (blk r d).length + 4 + (datL r (D.take i)).length = t + ((blk r d).length + 4 + (datL r (D.take i)).length) from by omega]
theorem lastK_mem {c : Ps} (h : c ≠ []) : ∃ v, (lastK c, v) ∈ c := by
  have hl := List.length_pos_iff.2 h
  exact ⟨_, List.mem_of_getElem? (ps_at (ps := c) (i := c.length - 1) (by omega))⟩
theorem idx_keys {r : Nat} : ∀ (D : List Ps) (t : Nat), (∀ c ∈ D, c ≠ []) → ((idxF r t D).map (·.1)).Sublist (D.flatten.map (·.1))
  | [], _, _ => by simp [idxF]
  | c :: D, t, h => by
    rw [idxF, List.map_cons, List.flatten_cons, List.map_append, ← List.singleton_append]
    refine List.Sublist.append ?_ (idx_keys D _ fun c hc => h c (by simp [hc]))
    obtain ⟨v, hv⟩ := lastK_mem (h c (by simp))
    exact List.singleton_sublist.2 (List.mem_map.2 ⟨_, hv, rfl⟩)
theorem asc_keys {ps : Ps} : Asc ps ↔ (∀ k ∈ ps.map (·.1), isK k = true) ∧ (ps.map (·.1)).Pairwise fun a b => ordK a b < 0 := by
  unfold Asc
  rw [List.pairwise_map]
  simp
theorem idx_rises {r : Nat} {D : List Ps} {t : Nat} (h : ∀ c ∈ D, c ≠ []) (hr : Rises D.flatten) : Rises (idxF r t D) := by
  have ha := asc_keys.1 (asc_of hr)
  have hs := idx_keys (r := r) D t h
  exact rises_of (asc_keys.2 ⟨fun k hk => ha.1 k (hs.subset hk), ha.2.sublist hs⟩)
theorem chunk_rises {D : List Ps} (hr : Rises D.flatten) {c : Ps} (hc : c ∈ D) : Rises c := hr.sub (List.sublist_flatten_of_mem hc)
theorem chunk_by {D : List Ps} (hr : ByP D.flatten) {c : Ps} (hc : c ∈ D) : ByP c := hr.sub (List.sublist_flatten_of_mem hc)
theorem idx_by {r : Nat} : ∀ (D : List Ps) (t : Nat), ByP D.flatten → (∀ c ∈ D, c ≠ []) → ByP (idxF r t D)
  | [], _, _, _ => fun p hp => by simp [idxF] at hp
  | c :: D, t, hb, h => fun p hp => by
    rw [idxF] at hp
    rcases List.mem_cons.1 hp with rfl | hp
    · obtain ⟨v, hv⟩ := lastK_mem (h c (by simp))
      have hm : (lastK c, v) ∈ (c :: D).flatten := by rw [List.flatten_cons]; exact List.mem_append_left _ hv
      exact ⟨(hb _ hm).1, (putL_by _).append (putL_by _)⟩
    · exact idx_by D _ (fun p hp => hb p (by rw [List.flatten_cons]; exact List.mem_append_right _ hp)) (fun c hc => h c (by simp [hc])) p hp

/-- The user keys, each once. -/
def usN (ps : Ps) : Nat → List (List Nat)
  | 0 => []
  | i + 1 => if (usN ps i).getLast? = some (userL (kA ps i)) then usN ps i else usN ps i ++ [userL (kA ps i)]
theorem usN_len (ps : Ps) : ∀ i, (usN ps i).length ≤ i
  | 0 => by simp [usN]
  | i + 1 => by
    have := usN_len ps i
    unfold usN
    split
    · omega
    · rw [List.length_append]; simp; omega
theorem usN_mem (ps : Ps) : ∀ (n i : Nat), i < n → userL (kA ps i) ∈ usN ps n
  | 0, i, h => by omega
  | n + 1, i, h => by
    unfold usN
    by_cases e : i = n
    · subst e
      split
      · rename_i hl; exact List.mem_of_getLast? hl
      · simp
    · have := usN_mem ps n i (by omega)
      split
      · exact this
      · exact List.mem_append_left _ this
theorem usN_all (ps : Ps) (P : List Nat → Prop) (h : ∀ i, i < ps.length → P (userL (kA ps i))) : ∀ n, n ≤ ps.length → ∀ u ∈ usN ps n, P u
  | 0, _, u, hu => by simp [usN] at hu
  | n + 1, hn, u, hu => by
    unfold usN at hu
    split at hu
    · exact usN_all ps P h n (by omega) u hu
    · rcases List.mem_append.1 hu with hu | hu
      · exact usN_all ps P h n (by omega) u hu
      · simp at hu; rw [hu]; exact h n (by omega)
def magicL : List Nat := [109, 111, 114, 97, 105, 110, 101, 49]
def numsL (a b c d : Nat) : List Nat := fixL a 8 ++ (fixL b 8 ++ (fixL c 8 ++ fixL d 8))
theorem numsL_len (a b c d : Nat) : (numsL a b c d).length = 32 := by unfold numsL; simp only [List.length_append, fixL_len]
def footL (a b c d : Nat) : List Nat := numsL a b c d ++ (fixL (crc (numsL a b c d)) 4 ++ magicL)
theorem numsL_by (a b c d : Nat) : By (numsL a b c d) := (fixL_by _ _).append ((fixL_by _ _).append ((fixL_by _ _).append (fixL_by _ _)))
theorem magicL_by : By magicL := by unfold By magicL; decide
/-- A table of data blocks, a filter and an index. -/
def layL (d f x : List Nat) : List Nat := d ++ (sealL f ++ (sealL x ++ footL d.length f.length (d.length + f.length + 4) x.length))
def tblL (r most bits : Nat) (ps : Ps) : List Nat := layL (datL r (chs most ps)) (fltL bits (usN ps ps.length)) (blk 1 (idxF r 0 (chs most ps)))
theorem datL_by {r : Nat} : ∀ {D : List Ps}, ByP D.flatten → By (datL r D)
  | [], _ => fun n h => by simp [datL] at h
  | c :: D, h => by
    rw [datL_cons]
    exact (sealL_by (blk_by (fun p hp => h p (by rw [List.flatten_cons]; exact List.mem_append_left _ hp)) r)).append (datL_by fun p hp => h p (by rw [List.flatten_cons]; exact List.mem_append_right _ hp))
theorem footL_by (a b c d : Nat) : By (footL a b c d) := (numsL_by _ _ _ _).append ((fixL_by _ _).append magicL_by)
theorem layL_by {d f x : List Nat} (hd : By d) (hf : By f) (hx : By x) : By (layL d f x) := hd.append ((sealL_by hf).append ((sealL_by hx).append (footL_by _ _ _ _)))
theorem tblL_by {r most bits : Nat} {ps : Ps} (h : ByP ps) : By (tblL r most bits ps) := by
  have hf := chs_flat most ps
  exact layL_by (datL_by (by rw [hf.1]; exact h)) (fltL_by _ _) (blk_by (idx_by _ _ (by rw [hf.1]; exact h) hf.2) 1)
end Go.Proofs.Ythmlpjogbdpgiaa
