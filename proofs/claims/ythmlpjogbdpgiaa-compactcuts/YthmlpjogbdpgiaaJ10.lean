/-
  Filters without the program: bits that are set, and asked for.
-/
import Derived.Test.YthmlpjogbdpgiaaBN
import Derived.Test.YthmlpjogbdpgiaaBM
namespace Go.Proofs.Ythmlpjogbdpgiaa

def hasB (m : List Nat) (b : Nat) : Bool := (m.getD (b / 8) 0).testBit (b % 8)
def setB (m : List Nat) (b : Nat) : List Nat := m.set (b / 8) (m.getD (b / 8) 0 ||| 2 ^ (b % 8))
theorem setB_len (m : List Nat) (b : Nat) : (setB m b).length = m.length := List.length_set
theorem getD_by {m : List Nat} (h : By m) (i : Nat) : m.getD i 0 < 256 := by
  rw [List.getD_eq_getElem?_getD]
  rcases hx : m[i]? with _ | x
  · simp
  · exact h x (List.mem_of_getElem? hx)
theorem setB_by {m : List Nat} (h : By m) (b : Nat) : By (setB m b) := fun n hn => by
  unfold setB at hn
  rcases List.mem_or_eq_of_mem_set hn with hn | hn
  · exact h n hn
  · rw [hn]
    have h1 := getD_by h (b / 8)
    have h2 : 2 ^ (b % 8) < 2 ^ 8 := Nat.pow_lt_pow_right (by omega) (by omega)
    exact Nat.or_lt_two_pow (n := 8) h1 h2
theorem has_set {m : List Nat} {b : Nat} (hb : b / 8 < m.length) (c : Nat) : hasB (setB m b) c = (hasB m c || decide (b = c)) := by
  unfold hasB setB
  by_cases h : c / 8 = b / 8
  · rw [h, List.getD_eq_getElem?_getD, List.getElem?_set_self hb, Option.getD_some, Nat.testBit_or, Nat.testBit_two_pow]
    congr 1
    have : (b % 8 = c % 8) = (b = c) := propext ⟨fun e => by omega, fun e => by rw [e]⟩
    simp only [this]
  · rw [List.getD_eq_getElem?_getD, List.getElem?_set_ne (fun e => h e.symm), ← List.getD_eq_getElem?_getD, decide_eq_false (fun e => h (by rw [e])), Bool.or_false]
def setN (H : Nat → Nat) (m : List Nat) : Nat → List Nat
  | 0 => m
  | j + 1 => setB (setN H m j) (H j)
theorem setN_len (H : Nat → Nat) (m : List Nat) : ∀ n, (setN H m n).length = m.length
  | 0 => rfl
  | n + 1 => by rw [setN, setB_len, setN_len H m n]
theorem setN_by (H : Nat → Nat) {m : List Nat} (h : By m) : ∀ n, By (setN H m n)
  | 0 => h
  | n + 1 => setB_by (setN_by H h n) _
theorem has_setN {H : Nat → Nat} {m : List Nat} (hH : ∀ j, H j / 8 < m.length) (c : Nat) : ∀ n, hasB (setN H m n) c = true ↔ (hasB m c = true ∨ ∃ j, j < n ∧ H j = c)
  | 0 => by simp [setN]
  | n + 1 => by
    rw [setN, has_set (by rw [setN_len]; exact hH n), Bool.or_eq_true, has_setN hH c n, decide_eq_true_iff]
    constructor
    · rintro ((h | ⟨j, hj, e⟩) | h)
      · exact .inl h
      · exact .inr ⟨j, by omega, e⟩
      · exact .inr ⟨n, by omega, h⟩
    · rintro (h | ⟨j, hj, e⟩)
      · exact .inl (.inl h)
      · by_cases hjn : j = n
        · subst hjn; exact .inr e
        · exact .inl (.inr ⟨j, by omega, e⟩)
def setK (Hs : Nat → Nat → Nat) (m : List Nat) (t : Nat) : Nat → List Nat
  | 0 => m
  | i + 1 => setN (Hs i) (setK Hs m t i) t
theorem setK_len (Hs : Nat → Nat → Nat) (m : List Nat) (t : Nat) : ∀ n, (setK Hs m t n).length = m.length
  | 0 => rfl
  | n + 1 => by rw [setK, setN_len, setK_len Hs m t n]
theorem setK_by (Hs : Nat → Nat → Nat) {m : List Nat} (h : By m) (t : Nat) : ∀ n, By (setK Hs m t n)
  | 0 => h
  | n + 1 => setN_by _ (setK_by Hs h t n) _
theorem has_setK {Hs : Nat → Nat → Nat} {m : List Nat} {t : Nat} (hH : ∀ i j, Hs i j / 8 < m.length) (c : Nat) : ∀ n, hasB (setK Hs m t n) c = true ↔ (hasB m c = true ∨ ∃ i, i < n ∧ ∃ j, j < t ∧ Hs i j = c)
  | 0 => by simp [setK]
  | n + 1 => by
    rw [setK, has_setN (fun j => by rw [setK_len]; exact hH n j), has_setK hH c n]
    constructor
    · rintro ((h | ⟨i, hi, e⟩) | h)
      · exact .inl h
      · exact .inr ⟨i, by omega, e⟩
      · exact .inr ⟨n, by omega, h⟩
    · rintro (h | ⟨i, hi, e⟩)
      · exact .inl (.inl h)
      · by_cases hin : i = n
        · subst hin; exact .inr e
        · exact .inl (.inr ⟨i, by omega, e⟩)
theorem marks_ext {m m' : List Nat} (h : By m) (h' : By m') (hl : m.length = m'.length) (he : ∀ c, hasB m c = hasB m' c) : m = m' := by
  refine List.ext_getElem hl fun i hi hi' => ?_
  apply Nat.eq_of_testBit_eq
  intro k
  have g1 : m.getD i 0 = m[i] := by rw [List.getD_eq_getElem?_getD, List.getElem?_eq_getElem hi]; rfl
  have g2 : m'.getD i 0 = m'[i] := by rw [List.getD_eq_getElem?_getD, List.getElem?_eq_getElem hi']; rfl
  rcases Nat.lt_or_ge k 8 with hk | hk
  · have := he (8 * i + k)
    unfold hasB at this
    rw [show (8 * i + k) / 8 = i from by omega, show (8 * i + k) % 8 = k from by omega, g1, g2] at this
    exact this
  · have b1 : m[i] < 2 ^ k := Nat.lt_of_lt_of_le (h _ (List.getElem_mem hi)) (Nat.pow_le_pow_right (n := 2) (by omega) hk)
    have b2 : m'[i] < 2 ^ k := Nat.lt_of_lt_of_le (h' _ (List.getElem_mem hi')) (Nat.pow_le_pow_right (n := 2) (by omega) hk)
    rw [Nat.testBit_lt_two_pow b1, Nat.testBit_lt_two_pow b2]

/-- A number of 32 bits turned right by 17. -/
def rt (h : Nat) : Nat := h * 32768 % 4294967296 ||| h / 131072
theorem rt_lt {h : Nat} (hh : h < 4294967296) : rt h < 4294967296 := Nat.or_lt_two_pow (n := 32) (Nat.mod_lt _ (by omega)) (by show h / 131072 < 2 ^ 32; omega)
def hs (h d : Nat) : Nat → Nat
  | 0 => h
  | j + 1 => (hs h d j + d) % 4294967296
theorem hs_lt {h d : Nat} (hh : h < 4294967296) : ∀ j, hs h d j < 4294967296
  | 0 => hh
  | j + 1 => Nat.mod_lt _ (by omega)
/-- The bits of a key among 8 times L. -/
def bt (L : Nat) (key : List Nat) (j : Nat) : Nat := hs (crc key) (rt (crc key)) j % (8 * L)
theorem bt_lt {L : Nat} (hL : 0 < L) (key : List Nat) (j : Nat) : bt L key j < 8 * L := Nat.mod_lt _ (by omega)
theorem bt_div {L : Nat} (hL : 0 < L) (key : List Nat) (j : Nat) : bt L key j / 8 < L := by have := bt_lt hL key j; omega
def rA (rs : List (List Nat)) (i : Nat) : List Nat := rs[i]?.getD []
/-- Bytes of a filter, turns in each key. -/
def fL (bits n : Nat) : Nat := max ((bits * n + 7) / 8) 8
def fT (bits : Nat) : Nat := min (max (bits * 69 / 100) 1) 30
def fM (L t : Nat) (rs : List (List Nat)) (n : Nat) : List Nat := setK (fun i j => bt L (rA rs i) j) (List.replicate L 0) t n
def fltL (bits : Nat) (rs : List (List Nat)) : List Nat := fM (fL bits rs.length) (fT bits) rs rs.length ++ [fT bits]
theorem rep_by (L : Nat) : By (List.replicate L 0) := fun n hn => by rw [List.eq_of_mem_replicate hn]; omega
theorem fM_len (L t : Nat) (rs : List (List Nat)) (n : Nat) : (fM L t rs n).length = L := by unfold fM; rw [setK_len, List.length_replicate]
theorem fM_by (L t : Nat) (rs : List (List Nat)) (n : Nat) : By (fM L t rs n) := setK_by _ (rep_by L) _ _
theorem fT_bd (bits : Nat) : 1 ≤ fT bits ∧ fT bits ≤ 30 := by unfold fT; omega
theorem fL_pos (bits n : Nat) : 8 ≤ fL bits n := by unfold fL; omega
theorem fltL_len (bits : Nat) (rs : List (List Nat)) : (fltL bits rs).length = fL bits rs.length + 1 := by unfold fltL; rw [List.length_append, fM_len]; rfl
theorem fltL_by (bits : Nat) (rs : List (List Nat)) : By (fltL bits rs) := (fM_by _ _ _ _).append (fun n hn => by simp at hn; rw [hn]; have := fT_bd bits; omega)
theorem rep_has (L c : Nat) : hasB (List.replicate L 0) c = false := by
  unfold hasB
  have : (List.replicate L 0).getD (c / 8) 0 = 0 := by
    rw [List.getD_eq_getElem?_getD, List.getElem?_replicate]
    split <;> rfl
  rw [this, Nat.zero_testBit]
theorem has_fM {L t : Nat} (hL : 0 < L) (rs : List (List Nat)) (c n : Nat) : hasB (fM L t rs n) c = true ↔ ∃ i, i < n ∧ ∃ j, j < t ∧ bt L (rA rs i) j = c := by
  unfold fM
  rw [has_setK (fun i j => by rw [List.length_replicate]; exact bt_div hL _ _), rep_has]
  simp
/-- Does a filter, its last byte left out, tell all bits of a key? -/
def mayL (m : List Nat) (key : List Nat) (t : Nat) : Bool := decide (∀ j, j < t → hasB m (bt m.length key j) = true)
theorem may_fM {L t : Nat} (hL : 0 < L) {rs : List (List Nat)} {i : Nat} (hi : i < rs.length) : mayL (fM L t rs rs.length) (rA rs i) t = true := by
  unfold mayL
  rw [decide_eq_true_iff]
  intro j hj
  rw [fM_len]
  exact (has_fM hL rs _ _).2 ⟨i, hi, j, hj, rfl⟩
theorem rA_mem {rs : List (List Nat)} {i : Nat} (h : i < rs.length) : rA rs i ∈ rs := by
  unfold rA; rw [List.getElem?_eq_getElem h]; exact List.getElem_mem h
theorem fM_same {L t : Nat} (hL : 0 < L) {rs rs' : List (List Nat)} (h : ∀ r, r ∈ rs ↔ r ∈ rs') : fM L t rs rs.length = fM L t rs' rs'.length := by
  refine marks_ext (fM_by _ _ _ _) (fM_by _ _ _ _) (by rw [fM_len, fM_len]) fun c => ?_
  have key : ∀ {a b : List (List Nat)}, (∀ r, r ∈ a → r ∈ b) → hasB (fM L t a a.length) c = true → hasB (fM L t b b.length) c = true := by
    intro a b hab hc
    obtain ⟨i, hi, j, hj, e⟩ := (has_fM hL a c _).1 hc
    obtain ⟨k, hk⟩ := List.getElem?_of_mem (hab _ (rA_mem hi))
    have hkl : k < b.length := by
      rcases Nat.lt_or_ge k b.length with h | h
      · exact h
      · rw [List.getElem?_eq_none h] at hk; cases hk
    refine (has_fM hL b c _).2 ⟨k, hkl, j, hj, ?_⟩
    have : rA b k = rA a i := by
      have e2 : rA b k = (b[k]?).getD [] := rfl
      rw [e2, hk]; rfl
    rw [this]; exact e
  rcases h1 : hasB (fM L t rs rs.length) c with _ | _
  · rcases h2 : hasB (fM L t rs' rs'.length) c with _ | _
    · rfl
    · have := key (fun r hr => (h r).2 hr) h2
      rw [h1] at this; cases this
  · rw [key (fun r hr => (h r).1 hr) h1]
end Go.Proofs.Ythmlpjogbdpgiaa
namespace Go.Proofs.Ythmlpjogbdpgiaa

def tot (ps : Ps) : Nat → Nat
  | 0 => 0
  | i + 1 => tot ps i + (kA ps i).length + (vA ps i).length
theorem tot_le (ps : Ps) : ∀ {i j : Nat}, i ≤ j → tot ps i ≤ tot ps j
  | i, 0, h => by have : i = 0 := by omega
                  subst this; exact Nat.le_refl _
  | i, j + 1, h => by
    rcases Nat.eq_or_lt_of_le h with e | h
    · subst e; exact Nat.le_refl _
    · have := tot_le ps (i := i) (j := j) (by omega)
      rw [tot]; omega
theorem ent_le {s : Nat} {k v : List Nat} (hs : s < 18446744073709551616) (hk : k.length < 18446744073709551616) (hv : v.length < 18446744073709551616) : (ent s k v).length ≤ 30 + k.length + v.length := by
  have h1 := putL_len10 hs
  have h2 := putL_len10 (n := k.length - s) (by omega)
  have h3 := putL_len10 hv
  unfold ent
  simp only [List.length_append, List.length_drop]
  omega
theorem bod_tot {ps : Ps} {r : Nat} (h : ∀ i, (kA ps i).length ≤ 1000000000000 ∧ (vA ps i).length ≤ 1000000000000) : ∀ i, (bod r ps i).length ≤ 30 * i + tot ps i
  | 0 => by simp [bod, tot]
  | i + 1 => by
    have ih := bod_tot h (r := r) i
    have hi := h i
    have := (shd_le r ps i).2
    have := ent_le (s := shd r ps i) (k := kA ps i) (v := vA ps i) (by omega) (by omega) (by omega)
    rw [bod, tot, List.length_append]
    omega
theorem tot_at (ps : Ps) {i n : Nat} (h : i < n) : (kA ps i).length + (vA ps i).length ≤ tot ps n := by
  have := tot_le ps (i := i + 1) (j := n) (by omega)
  rw [tot] at this
  omega
theorem small_all {ps : Ps} (h : tot ps ps.length ≤ 5000) : ∀ i, (kA ps i).length ≤ 5000 ∧ (vA ps i).length ≤ 5000 := fun i => by
  by_cases hi : i < ps.length
  · have := tot_at ps hi; omega
  · rw [(kA_out (by omega)).1, (kA_out (by omega)).2]; simp
theorem few_bod {ps : Ps} (h1 : ps.length ≤ 60) (h2 : tot ps ps.length ≤ 5000) (r : Nat) : (bod r ps ps.length).length ≤ 10000 := by
  have := bod_tot (ps := ps) (r := r) (fun i => by have := small_all h2 i; omega) ps.length
  omega

/-- Few entries. -/
structure Few (ps : Ps) : Prop where
  n : ps.length ≤ 60
  t : tot ps ps.length ≤ 5000
end Go.Proofs.Ythmlpjogbdpgiaa
