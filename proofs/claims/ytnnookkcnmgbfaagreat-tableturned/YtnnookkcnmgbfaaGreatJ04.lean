/-
  Blocks without the program: what is read of a block is what was laid down, and what is read as one is one.
-/
import Derived.Test.YtnnookkcnmgbfaaGreatJ03
namespace Go.Proofs.YtnnookkcnmgbfaaGreat

/-- A block's entries, and its places: how many bytes lie ahead of the places; none, if there are too few. -/
def halfL (b : List Nat) : Option Nat :=
  if 4 ≤ b.length ∧ unf (b.drop (b.length - 4)) ≤ (b.length - 4) / 4 then some (b.length - 4 - 4 * unf (b.drop (b.length - 4))) else none
def bodL (b : List Nat) (k : Nat) : List Nat := b.take k
def plcL (b : List Nat) (k : Nat) : List Nat := (b.drop k).take (b.length - 4 - k)
theorem half_blk {r : Nat} {ps : Ps} (hn : ps.length < 1073741824) : halfL (blk r ps) = some (bod r ps ps.length).length ∧ bodL (blk r ps) (bod r ps ps.length).length = bod r ps ps.length ∧ plcL (blk r ps) (bod r ps ps.length).length = plc r ps ps.length := by
  have h4 := plc_four r ps ps.length
  have hl := plc_le r ps ps.length
  have e1 : (blk r ps).length = (bod r ps ps.length).length + (plc r ps ps.length).length + 4 := by
    unfold blk; simp only [List.length_append, fixL_len]; omega
  have e2 : (blk r ps).drop ((blk r ps).length - 4) = fixL ((plc r ps ps.length).length / 4) 4 := by
    rw [show (blk r ps).length - 4 = (bod r ps ps.length ++ plc r ps ps.length).length from by rw [e1, List.length_append]; omega]
    unfold blk
    rw [← List.append_assoc, List.drop_left]
  have e3 : unf (fixL ((plc r ps ps.length).length / 4) 4) = (plc r ps ps.length).length / 4 := by
    rw [unf_fixL, Nat.mod_eq_of_lt]
    have : (256 : Nat) ^ 4 = 4294967296 := rfl
    omega
  refine ⟨?_, ?_, ?_⟩
  · unfold halfL
    rw [e2, e3, e1, if_pos (by omega)]
    congr 1; omega
  · unfold bodL blk; rw [List.take_left]
  · unfold plcL
    rw [e1, show (bod r ps ps.length).length + (plc r ps ps.length).length + 4 - 4 - (bod r ps ps.length).length = (plc r ps ps.length).length from by omega]
    unfold blk; rw [List.drop_left, List.take_left]
theorem half_inv {b : List Nat} (hb : By b) {k : Nat} (h : halfL b = some k) : k + 4 ≤ b.length ∧ b = bodL b k ++ (plcL b k ++ fixL ((plcL b k).length / 4) 4) := by
  unfold halfL at h
  split at h
  · rename_i hc
    simp only [Option.some.injEq] at h
    obtain ⟨h1, h2⟩ := hc
    have hk : k + 4 ≤ b.length := by omega
    have e1 : (plcL b k).length = 4 * unf (b.drop (b.length - 4)) := by
      unfold plcL; rw [List.length_take, List.length_drop]; omega
    refine ⟨hk, ?_⟩
    have e2 : fixL ((plcL b k).length / 4) 4 = b.drop (b.length - 4) := by
      have h3 := fixL_unf (b.drop (b.length - 4)) (hb.drop _)
      rw [List.length_drop, show b.length - (b.length - 4) = 4 from by omega] at h3
      rw [e1, show 4 * unf (b.drop (b.length - 4)) / 4 = unf (b.drop (b.length - 4)) from by omega]; exact h3
    rw [e2]
    have e3 : b.drop (b.length - 4) = (b.drop k).drop (b.length - 4 - k) := by rw [List.drop_drop]; congr 1; omega
    unfold plcL bodL
    rw [e3, List.take_append_drop, List.take_append_drop]
  · cases h
/-- What is read as a block is one. -/
theorem blk_read {b : List Nat} (hb : By b) {k f c : Nat} {ls : List Ln} (h1 : halfL b = some k) (h2 : linesF f (bodL b k) 0 [] = some ls) (h3 : Good c ls (plcL b k)) : Blk b (psL ls) c := by
  obtain ⟨hk, e⟩ := half_inv hb h1
  obtain ⟨e1, ok⟩ := linesF_inv (hb.take k) f 0 [] ls (Nat.zero_le _) h2
  obtain ⟨g1, g2, g3, g4⟩ := h3
  refine ⟨ok.rises, g1, g2, ?_⟩
  have e2 := cat_bod g3 ls.length (Nat.le_refl _)
  rw [List.take_length] at e2
  have e3 := pl_plc ok g3 ls.length (Nat.le_refl _)
  unfold blk
  rw [psL_len, ← e2, ← e3, g4]
  have : catL ls = bodL b k := by rw [← e1, List.drop_zero]; rfl
  rw [this]; exact e.symm
theorem lnA_lns (r : Nat) (ps : Ps) {i : Nat} (h : i < ps.length) : lnA (lns r ps 0 ps.length) i = ln r ps i := by
  unfold lnA; rw [lns_at r ps _ 0 i h, Nat.zero_add]; rfl
theorem shd_small {r c : Nat} (ps : Ps) {n i : Nat} (hr : n ≤ r) (hc : n ≤ c) (hi : i < n) : shd r ps i = shd c ps i := by
  unfold shd
  rw [Nat.mod_eq_of_lt (by omega), Nat.mod_eq_of_lt (by omega)]
theorem oks_lns (r : Nat) (ps : Ps) : OkS r (lns r ps 0 ps.length) (lns r ps 0 ps.length).length := fun i hi => by
  rw [lns_len] at hi
  rw [lnA_lns r ps hi, psL_lns]; rfl
theorem pln_lns (r : Nat) (ps : Ps) : ∀ i, i ≤ ps.length → plN r (lns r ps 0 ps.length) i = plc r ps i
  | 0, _ => rfl
  | i + 1, h => by rw [plN, plc, pln_lns r ps i (by omega), lnA_lns r ps (by omega)]; rfl
theorem pln_small {r c : Nat} (ls : List Ln) : ∀ (i : Nat), i ≤ r → i ≤ c → plN r ls i = plN c ls i
  | 0, _, _ => rfl
  | i + 1, h1, h2 => by rw [plN, plN, pln_small (r := r) (c := c) ls i (by omega) (by omega), Nat.mod_eq_of_lt (show i < r from h1), Nat.mod_eq_of_lt (show i < c from h2)]
/-- Which restart may have led to places: what a search finds of it. -/
def RsO (ls : List Ln) (pl : List Nat) (c : Nat) : Prop :=
  (pl.length < 8 ∧ c = 64) ∨ (8 ≤ pl.length ∧ c ≤ ls.length ∧ (c < ls.length → unf ((pl.drop 4).take 4) ≤ (lnA ls c).pos) ∧ (0 < c → (lnA ls (c - 1)).pos < unf ((pl.drop 4).take 4)))
/-- A block is read so. -/
theorem read_blk {b : List Nat} {ps : Ps} {r : Nat} (B : Blk b ps r) (hn : ps.length < 1073741824) (hl : (bod r ps ps.length).length < 4294967296) {f : Nat} (hf : (bod r ps ps.length).length < f) :
    halfL b = some (bod r ps ps.length).length ∧ linesF f (bodL b (bod r ps ps.length).length) 0 [] = some (lns r ps 0 ps.length) ∧ ∀ c, RsO (lns r ps 0 ps.length) (plcL b (bod r ps ps.length).length) c → Good c (lns r ps 0 ps.length) (plcL b (bod r ps ps.length).length) := by
  obtain ⟨h1, h2, h3⟩ := half_blk (r := r) (ps := ps) hn
  obtain ⟨b1, b2, b3, rfl⟩ := B
  have hlen : ps.length ≤ (bod r ps ps.length).length := by
    have : ∀ i, i ≤ (bod r ps i).length := by
      intro i
      induction i with
      | zero => simp
      | succ i ih => have := bod_lt r ps (i := i) (j := i + 1) (by omega); omega
    exact this _
  refine ⟨h1, ?_, fun c hc => ?_⟩
  · rw [h2]
    have := linesF_bod b1 (n := ps.length) (Nat.le_refl _) (r := r) (by omega) ps.length 0 f (by omega) (by omega)
    exact this
  · rw [h3] at hc ⊢
    rcases hc with ⟨c1, rfl⟩ | ⟨c1, c2, c3, c4⟩
    · have hle : ps.length ≤ r := by
        rcases Nat.lt_or_ge r ps.length with hlt | hge
        · obtain ⟨x, hx⟩ := plc_second b2 ps hlt
          rw [hx, List.length_append, List.length_append, fixL_len, fixL_len] at c1
          omega
        · exact hge
      refine ⟨by omega, by omega, fun i hi => ?_, ?_⟩
      · rw [oks_lns r ps i hi]
        rw [lns_len] at hi
        rw [psL_lns]
        exact shd_small ps hle (by omega) hi
      · rw [lns_len, pln_small _ ps.length (show ps.length ≤ 64 from by omega) hle, pln_lns r ps _ (Nat.le_refl _)]
    · have hlt : r < ps.length := by
        rcases Nat.lt_or_ge r ps.length with hlt | hge
        · exact hlt
        · exfalso
          rcases Nat.eq_zero_or_pos ps.length with h0 | h0
          · rw [h0] at c1; simp [plc] at c1
          · rw [plc_small b2 ps _ h0 hge, fixL_len] at c1; omega
      obtain ⟨x, hx⟩ := plc_second b2 ps hlt
      have hsec : unf ((plc r ps ps.length).drop 4 |>.take 4) = (bod r ps r).length := by
        have d4 : (plc r ps ps.length).drop 4 = fixL (bod r ps r).length 4 ++ x := by
          rw [hx]
          have := List.drop_left (l₁ := fixL 0 4) (l₂ := fixL (bod r ps r).length 4 ++ x)
          rwa [fixL_len] at this
        rw [d4]
        have t4 : (fixL (bod r ps r).length 4 ++ x).take 4 = fixL (bod r ps r).length 4 := by
          have := List.take_left (l₁ := fixL (bod r ps r).length 4) (l₂ := x)
          rwa [fixL_len] at this
        rw [t4, unf_fixL, Nat.mod_eq_of_lt]
        have := bod_le r ps (i := r) (j := ps.length) (by omega)
        have : (256 : Nat) ^ 4 = 4294967296 := rfl
        omega
      rw [hsec] at c3 c4
      rw [lns_len] at c2 c3
      have hcr : c = r := by
        rcases Nat.lt_trichotomy c r with h | h | h
        · have := c3 (by omega)
          rw [lnA_lns r ps (by omega)] at this
          have h' := bod_lt r ps h
          simp only [ln] at this
          omega
        · exact h
        · have := c4 (by omega)
          rw [lnA_lns r ps (by omega)] at this
          have h' := bod_le r ps (i := r) (j := c - 1) (by omega)
          simp only [ln] at this
          omega
      subst hcr
      exact ⟨b2, b3, oks_lns c ps, by rw [lns_len, pln_lns c ps _ (Nat.le_refl _)]⟩
theorem blk_one {b : List Nat} {ps ps' : Ps} {r r' : Nat} (B : Blk b ps r) (B' : Blk b ps' r') (hb : b.length < 1073741824) : ps = ps' := by
  have hlen : ∀ {ps : Ps} {r : Nat}, Blk b ps r → ps.length < 1073741824 ∧ (bod r ps ps.length).length < 1073741824 := by
    intro ps r B
    have h1 : ∀ i, i ≤ (bod r ps i).length := by
      intro i
      induction i with
      | zero => simp
      | succ i ih => have := bod_lt r ps (i := i) (j := i + 1) (by omega); omega
    have h2 := h1 ps.length
    have h3 : (blk r ps).length = b.length := by rw [B.eq]
    unfold blk at h3
    rw [List.length_append] at h3
    omega
  obtain ⟨x1, x2, _⟩ := read_blk B (hlen B).1 (by have := (hlen B).2; omega) (f := 4294967296) (by have := (hlen B).2; omega)
  obtain ⟨y1, y2, _⟩ := read_blk B' (hlen B').1 (by have := (hlen B').2; omega) (f := 4294967296) (by have := (hlen B').2; omega)
  rw [x1, Option.some.injEq] at y1
  rw [← y1, x2, Option.some.injEq] at y2
  have := congrArg psL y2
  rwa [psL_lns, psL_lns] at this
end Go.Proofs.YtnnookkcnmgbfaaGreat
namespace Go.Proofs.YtnnookkcnmgbfaaGreat

def hasB (m : List Nat) (b : Nat) : Bool := (m.getD (b / 8) 0).testBit (b % 8)
def setB (m : List Nat) (b : Nat) : List Nat := m.set (b / 8) (m.getD (b / 8) 0 ||| 2 ^ (b % 8))
theorem setB_len (m : List Nat) (b : Nat) : (setB m b).length = m.length := List.length_set
theorem getD_by {m : List Nat} (h : By m) (i : Nat) : m.getD i 0 < 256 := by
  rw [List.getD_eq_getElem?_getD]
  rcases hx : m[i]? with _ | x
  · simp
  · exact h x (List.mem_of_getElem? hx)
theorem setB_by {m : List Nat} (h : By m) (b : Nat) : By (setB m b) := fun n hn => by
  unfold setB at hn
  rcases List.mem_or_eq_of_mem_set hn with hn | hn
  · exact h n hn
  · rw [hn]
    have h1 := getD_by h (b / 8)
    have h2 : 2 ^ (b % 8) < 2 ^ 8 := Nat.pow_lt_pow_right (by omega) (by omega)
    exact Nat.or_lt_two_pow (n := 8) h1 h2
theorem has_set {m : List Nat} {b : Nat} (hb : b / 8 < m.length) (c : Nat) : hasB (setB m b) c = (hasB m c || decide (b = c)) := by
  unfold hasB setB
  by_cases h : c / 8 = b / 8
  · rw [h, List.getD_eq_getElem?_getD, List.getElem?_set_self hb, Option.getD_some, Nat.testBit_or, Nat.testBit_two_pow]
    congr 1
    have : (b % 8 = c % 8) = (b = c) := propext ⟨fun e => by omega, fun e => by rw [e]⟩
    simp only [this]
  · rw [List.getD_eq_getElem?_getD, List.getElem?_set_ne (fun e => h e.symm), ← List.getD_eq_getElem?_getD, decide_eq_false (fun e => h (by rw [e])), Bool.or_false]
def setN (H : Nat → Nat) (m : List Nat) : Nat → List Nat
  | 0 => m
  | j + 1 => setB (setN H m j) (H j)
theorem setN_len (H : Nat → Nat) (m : List Nat) : ∀ n, (setN H m n).length = m.length
  | 0 => rfl
  | n + 1 => by rw [setN, setB_len, setN_len H m n]
theorem setN_by (H : Nat → Nat) {m : List Nat} (h : By m) : ∀ n, By (setN H m n)
  | 0 => h
  | n + 1 => setB_by (setN_by H h n) _
theorem has_setN {H : Nat → Nat} {m : List Nat} (hH : ∀ j, H j / 8 < m.length) (c : Nat) : ∀ n, hasB (setN H m n) c = true ↔ (hasB m c = true ∨ ∃ j, j < n ∧ H j = c)
  | 0 => by simp [setN]
  | n + 1 => by
    rw [setN, has_set (by rw [setN_len]; exact hH n), Bool.or_eq_true, has_setN hH c n, decide_eq_true_iff]
    constructor
    · rintro ((h | ⟨j, hj, e⟩) | h)
      · exact .inl h
      · exact .inr ⟨j, by omega, e⟩
      · exact .inr ⟨n, by omega, h⟩
    · rintro (h | ⟨j, hj, e⟩)
      · exact .inl (.inl h)
      · by_cases hjn : j = n
        · subst hjn; exact .inr e
        · exact .inl (.inr ⟨j, by omega, e⟩)
def setK (Hs : Nat → Nat → Nat) (m : List Nat) (t : Nat) : Nat → List Nat
  | 0 => m
  | i + 1 => setN (Hs i) (setK Hs m t i) t
theorem setK_len (Hs : Nat → Nat → Nat) (m : List Nat) (t : Nat) : ∀ n, (setK Hs m t n).length = m.length
  | 0 => rfl
  | n + 1 => by rw [setK, setN_len, setK_len Hs m t n]
theorem setK_by (Hs : Nat → Nat → Nat) {m : List Nat} (h : By m) (t : Nat) : ∀ n, By (setK Hs m t n)
  | 0 => h
  | n + 1 => setN_by _ (setK_by Hs h t n) _
theorem has_setK {Hs : Nat → Nat → Nat} {m : List Nat} {t : Nat} (hH : ∀ i j, Hs i j / 8 < m.length) (c : Nat) : ∀ n, hasB (setK Hs m t n) c = true ↔ (hasB m c = true ∨ ∃ i, i < n ∧ ∃ j, j < t ∧ Hs i j = c)
  | 0 => by simp [setK]
  | n + 1 => by
    rw [setK, has_setN (fun j => by rw [setK_len]; exact hH n j), has_setK hH c n]
    constructor
    · rintro ((h | ⟨i, hi, e⟩) | h)
      · exact .inl h
      · exact .inr ⟨i, by omega, e⟩
      · exact .inr ⟨n, by omega, h⟩
    · rintro (h | ⟨i, hi, e⟩)
      · exact .inl (.inl h)
      · by_cases hin : i = n
        · subst hin; exact .inr e
        · exact .inl (.inr ⟨i, by omega, e⟩)
theorem marks_ext {m m' : List Nat} (h : By m) (h' : By m') (hl : m.length = m'.length) (he : ∀ c, hasB m c = hasB m' c) : m = m' := by
  refine List.ext_getElem hl fun i hi hi' => ?_
  apply Nat.eq_of_testBit_eq
  intro k
  have g1 : m.getD i 0 = m[i] := by rw [List.getD_eq_getElem?_getD, List.getElem?_eq_getElem hi]; rfl
  have g2 : m'.getD i 0 = m'[i] := by rw [List.getD_eq_getElem?_getD, List.getElem?_eq_getElem hi']; rfl
  rcases Nat.lt_or_ge k 8 with hk | hk
  · have := he (8 * i + k)
    unfold hasB at this
    rw [show (8 * i + k) / 8 = i from by omega, show (8 * i + k) % 8 = k from by omega, g1, g2] at this
    exact this
  · have b1 : m[i] < 2 ^ k := Nat.lt_of_lt_of_le (h _ (List.getElem_mem hi)) (Nat.pow_le_pow_right (n := 2) (by omega) hk)
    have b2 : m'[i] < 2 ^ k := Nat.lt_of_lt_of_le (h' _ (List.getElem_mem hi')) (Nat.pow_le_pow_right (n := 2) (by omega) hk)
    rw [Nat.testBit_lt_two_pow b1, Nat.testBit_lt_two_pow b2]

/-- A number of 32 bits turned right by 17. -/
def rt (h : Nat) : Nat := h * 32768 % 4294967296 ||| h / 131072
theorem rt_lt {h : Nat} (hh : h < 4294967296) : rt h < 4294967296 := Nat.or_lt_two_pow (n := 32) (Nat.mod_lt _ (by omega)) (by show h / 131072 < 2 ^ 32; omega)
def hs (h d : Nat) : Nat → Nat
  | 0 => h
  | j + 1 => (hs h d j + d) % 4294967296
theorem hs_lt {h d : Nat} (hh : h < 4294967296) : ∀ j, hs h d j < 4294967296
  | 0 => hh
  | j + 1 => Nat.mod_lt _ (by omega)
/-- The bits of a key among 8 times L. -/
def bt (L : Nat) (key : List Nat) (j : Nat) : Nat := hs (crc key) (rt (crc key)) j % (8 * L)
theorem bt_lt {L : Nat} (hL : 0 < L) (key : List Nat) (j : Nat) : bt L key j < 8 * L := Nat.mod_lt _ (by omega)
theorem bt_div {L : Nat} (hL : 0 < L) (key : List Nat) (j : Nat) : bt L key j / 8 < L := by have := bt_lt hL key j; omega
def rA (rs : List (List Nat)) (i : Nat) : List Nat := rs[i]?.getD []
/-- Bytes of a filter, turns in each key. -/
def fL (bits n : Nat) : Nat := max ((bits * n + 7) / 8) 8
def fT (bits : Nat) : Nat := min (max (bits * 69 / 100) 1) 30
def fM (L t : Nat) (rs : List (List Nat)) (n : Nat) : List Nat := setK (fun i j => bt L (rA rs i) j) (List.replicate L 0) t n
def fltL (bits : Nat) (rs : List (List Nat)) : List Nat := fM (fL bits rs.length) (fT bits) rs rs.length ++ [fT bits]
theorem rep_by (L : Nat) : By (List.replicate L 0) := fun n hn => by rw [List.eq_of_mem_replicate hn]; omega
theorem fM_len (L t : Nat) (rs : List (List Nat)) (n : Nat) : (fM L t rs n).length = L := by unfold fM; rw [setK_len, List.length_replicate]
theorem fM_by (L t : Nat) (rs : List (List Nat)) (n : Nat) : By (fM L t rs n) := setK_by _ (rep_by L) _ _
theorem fT_bd (bits : Nat) : 1 ≤ fT bits ∧ fT bits ≤ 30 := by unfold fT; omega
theorem fL_pos (bits n : Nat) : 8 ≤ fL bits n := by unfold fL; omega
theorem fltL_len (bits : Nat) (rs : List (List Nat)) : (fltL bits rs).length = fL bits rs.length + 1 := by unfold fltL; rw [List.length_append, fM_len]; rfl
theorem fltL_by (bits : Nat) (rs : List (List Nat)) : By (fltL bits rs) := (fM_by _ _ _ _).append (fun n hn => by simp at hn; rw [hn]; have := fT_bd bits; omega)
theorem rep_has (L c : Nat) : hasB (List.replicate L 0) c = false := by
  unfold hasB
  have : (List.replicate L 0).getD (c / 8) 0 = 0 := by
    rw [List.getD_eq_getElem?_getD, List.getElem?_replicate]
    split <;> rfl
  rw [this, Nat.zero_testBit]
theorem has_fM {L t : Nat} (hL : 0 < L) (rs : List (List Nat)) (c n : Nat) : hasB (fM L t rs n) c = true ↔ ∃ i, i < n ∧ ∃ j, j < t ∧ bt L (rA rs i) j = c := by
  unfold fM
  rw [has_setK (fun i j => by rw [List.length_replicate]; exact bt_div hL _ _), rep_has]
  simp
/-- Does a filter, its last byte left out, tell all bits of a key? -/
def mayL (m : List Nat) (key : List Nat) (t : Nat) : Bool := decide (∀ j, j < t → hasB m (bt m.length key j) = true)
theorem may_fM {L t : Nat} (hL : 0 < L) {rs : List (List Nat)} {i : Nat} (hi : i < rs.length) : mayL (fM L t rs rs.length) (rA rs i) t = true := by
  unfold mayL
  rw [decide_eq_true_iff]
  intro j hj
  rw [fM_len]
  exact (has_fM hL rs _ _).2 ⟨i, hi, j, hj, rfl⟩
theorem rA_mem {rs : List (List Nat)} {i : Nat} (h : i < rs.length) : rA rs i ∈ rs := by
  unfold rA; rw [List.getElem?_eq_getElem h]; exact List.getElem_mem h
theorem fM_same {L t : Nat} (hL : 0 < L) {rs rs' : List (List Nat)} (h : ∀ r, r ∈ rs ↔ r ∈ rs') : fM L t rs rs.length = fM L t rs' rs'.length := by
  refine marks_ext (fM_by _ _ _ _) (fM_by _ _ _ _) (by rw [fM_len, fM_len]) fun c => ?_
  have key : ∀ {a b : List (List Nat)}, (∀ r, r ∈ a → r ∈ b) → hasB (fM L t a a.length) c = true → hasB (fM L t b b.length) c = true := by
    intro a b hab hc
    obtain ⟨i, hi, j, hj, e⟩ := (has_fM hL a c _).1 hc
    obtain ⟨k, hk⟩ := List.getElem?_of_mem (hab _ (rA_mem hi))
    have hkl : k < b.length := by
      rcases Nat.lt_or_ge k b.length with h | h
      · exact h
      · rw [List.getElem?_eq_none h] at hk; cases hk
    refine (has_fM hL b c _).2 ⟨k, hkl, j, hj, ?_⟩
    have : rA b k = rA a i := by
      have e2 : rA b k = (b[k]?).getD [] := rfl
      rw [e2, hk]; rfl
    rw [this]; exact e
  rcases h1 : hasB (fM L t rs rs.length) c with _ | _
  · rcases h2 : hasB (fM L t rs' rs'.length) c with _ | _
    · rfl
    · have := key (fun r hr => (h r).2 hr) h2
      rw [h1] at this; cases this
  · rw [key (fun r hr => (h r).1 hr) h1]
end Go.Proofs.YtnnookkcnmgbfaaGreat
namespace Go.Proofs.YtnnookkcnmgbfaaGreat

def tot (ps : Ps) : Nat → Nat
  | 0 => 0
  | i + 1 => tot ps i + (kA ps i).length + (vA ps i).length
theorem tot_le (ps : Ps) : ∀ {i j : Nat}, i ≤ j → tot ps i ≤ tot ps j
  | i, 0, h => by have : i = 0 := by omega
                  subst this; exact Nat.le_refl _
  | i, j + 1, h => by
    rcases Nat.eq_or_lt_of_le h with e | h
    · subst e; exact Nat.le_refl _
    · have := tot_le ps (i := i) (j := j) (by omega)
      rw [tot]; omega
theorem ent_le {s : Nat} {k v : List Nat} (hs : s < 18446744073709551616) (hk : k.length < 18446744073709551616) (hv : v.length < 18446744073709551616) : (ent s k v).length ≤ 30 + k.length + v.length := by
  have h1 := putL_len10 hs
  have h2 := putL_len10 (n := k.length - s) (by omega)
  have h3 := putL_len10 hv
  unfold ent
  simp only [List.length_append, List.length_drop]
  omega
theorem bod_tot {ps : Ps} {r : Nat} (h : ∀ i, (kA ps i).length ≤ 1000000000000 ∧ (vA ps i).length ≤ 1000000000000) : ∀ i, (bod r ps i).length ≤ 30 * i + tot ps i
  | 0 => by simp [bod, tot]
  | i + 1 => by
    have ih := bod_tot h (r := r) i
    have hi := h i
    have := (shd_le r ps i).2
    have := ent_le (s := shd r ps i) (k := kA ps i) (v := vA ps i) (by omega) (by omega) (by omega)
    rw [bod, tot, List.length_append]
    omega
theorem tot_at (ps : Ps) {i n : Nat} (h : i < n) : (kA ps i).length + (vA ps i).length ≤ tot ps n := by
  have := tot_le ps (i := i + 1) (j := n) (by omega)
  rw [tot] at this
  omega
theorem small_all {ps : Ps} (h : tot ps ps.length ≤ 5000) : ∀ i, (kA ps i).length ≤ 5000 ∧ (vA ps i).length ≤ 5000 := fun i => by
  by_cases hi : i < ps.length
  · have := tot_at ps hi; omega
  · rw [(kA_out (by omega)).1, (kA_out (by omega)).2]; simp
theorem few_bod {ps : Ps} (h1 : ps.length ≤ 60) (h2 : tot ps ps.length ≤ 5000) (r : Nat) : (bod r ps ps.length).length ≤ 10000 := by
  have := bod_tot (ps := ps) (r := r) (fun i => by have := small_all h2 i; omega) ps.length
  omega

/-- Few entries. -/
structure Few (ps : Ps) : Prop where
  n : ps.length ≤ 60
  t : tot ps ps.length ≤ 5000
end Go.Proofs.YtnnookkcnmgbfaaGreat
namespace Go.Proofs.YtnnookkcnmgbfaaGreat

theorem kA_drop (ps : Ps) (a i : Nat) : kA (ps.drop a) i = kA ps (a + i) ∧ vA (ps.drop a) i = vA ps (a + i) := by
  unfold kA vA; rw [List.getElem?_drop]; exact ⟨rfl, rfl⟩
theorem kA_take (ps : Ps) {n i : Nat} (h : i < n) : kA (ps.take n) i = kA ps i ∧ vA (ps.take n) i = vA ps i := by
  unfold kA vA; rw [List.getElem?_take_of_lt h]; exact ⟨rfl, rfl⟩
theorem ord_lt {a b c : List Nat} (h1 : ordK a b < 0) (h2 : ordK b c < 0) : ordK a c < 0 := by
  rcases Int.lt_or_le (ordK a c) 0 with h | h
  · exact h
  · exfalso
    have h3 : ordK c a ≤ 0 := by rw [ordK_neg a c]; omega
    have h4 := ordK_trans c a b h3 (by omega)
    rw [ordK_neg b c] at h4; omega
/-- Keys that rise, of any two of them. -/
def Asc (ps : Ps) : Prop := (∀ p ∈ ps, isK p.1 = true) ∧ ps.Pairwise fun p q => ordK p.1 q.1 < 0
theorem kA_ne {ps : Ps} (hr : Rises ps) {i : Nat} (hi : i < ps.length) : kA ps i ≠ [] := fun e => by
  have := isK_len (flw_isK (hr i hi)); rw [e] at this; simp at this
theorem rises_next {ps : Ps} (hr : Rises ps) {i : Nat} (hi : i + 1 < ps.length) : ordK (kA ps i) (kA ps (i + 1)) < 0 := by
  have h := hr (i + 1) hi
  rw [ahd_succ] at h
  unfold flw at h
  rw [if_neg (kA_ne hr (by omega))] at h
  simp only [Bool.and_eq_true, decide_eq_true_iff] at h
  exact h.2.2
theorem rises_lt {ps : Ps} (hr : Rises ps) {i : Nat} : ∀ (d : Nat), i + d + 1 < ps.length → ordK (kA ps i) (kA ps (i + d + 1)) < 0
  | 0, h => rises_next hr h
  | d + 1, h => ord_lt (rises_lt hr d (by omega)) (rises_next hr h)
theorem rises_ij {ps : Ps} (hr : Rises ps) {i j : Nat} (h : i < j) (hj : j < ps.length) : ordK (kA ps i) (kA ps j) < 0 := by
  have := rises_lt hr (i := i) (j - i - 1) (by omega)
  rwa [show i + (j - i - 1) + 1 = j from by omega] at this
theorem rises_isK {ps : Ps} (hr : Rises ps) {i : Nat} (hi : i < ps.length) : isK (kA ps i) = true := flw_isK (hr i hi)
theorem asc_of {ps : Ps} (hr : Rises ps) : Asc ps := by
  refine ⟨fun p hp => ?_, ?_⟩
  · obtain ⟨i, hi⟩ := List.getElem?_of_mem hp
    have hl := (List.getElem?_eq_some_iff.1 hi).1
    have := rises_isK hr hl
    rwa [(kA_at hi).1] at this
  · rw [List.pairwise_iff_getElem]
    intro i j hi hj hij
    have := rises_ij hr hij hj
    rwa [(kA_at (List.getElem?_eq_getElem hi)).1, (kA_at (List.getElem?_eq_getElem hj)).1] at this
theorem rises_of {ps : Ps} (h : Asc ps) : Rises ps := fun i hi => by
  have hk := h.1 _ (List.mem_of_getElem? (ps_at hi))
  unfold flw ahd
  by_cases h0 : i = 0
  · rw [if_pos (by rw [if_pos h0])]; exact hk
  · rw [if_neg h0]
    have hk' := h.1 _ (List.mem_of_getElem? (ps_at (i := i - 1) (ps := ps) (by omega)))
    have hne : kA ps (i - 1) ≠ [] := fun e => by have := isK_len hk'; rw [e] at this; simp at this
    rw [if_neg hne]
    have hp := List.pairwise_iff_getElem.1 h.2 (i - 1) i (by omega) hi (by omega)
    rw [← (kA_at (List.getElem?_eq_getElem hi)).1, ← (kA_at (List.getElem?_eq_getElem (show i - 1 < ps.length by omega))).1] at hp
    dsimp only at hk hk'
    rw [hk, hk', decide_eq_true hp]; rfl
theorem Asc.sub {ps qs : Ps} (h : Asc ps) (hs : qs.Sublist ps) : Asc qs := ⟨fun p hp => h.1 p (hs.subset hp), h.2.sublist hs⟩
theorem Rises.sub {ps qs : Ps} (h : Rises ps) (hs : qs.Sublist ps) : Rises qs := rises_of ((asc_of h).sub hs)
theorem ByP.sub {ps qs : Ps} (h : ByP ps) (hs : qs.Sublist ps) : ByP qs := fun p hp => h p (hs.subset hp)

/-- How many entries of the beginning fill a block. -/
def filF (most : Nat) (ps : Ps) : Nat → Nat → Nat
  | 0, i => i
  | d + 1, i => if most ≤ tot ps (i + 1) then i + 1 else filF most ps d (i + 1)
def fil (most : Nat) (ps : Ps) : Nat := filF most ps ps.length 0
theorem filF_bd (most : Nat) (ps : Ps) : ∀ (d i : Nat), i ≤ filF most ps d i ∧ filF most ps d i ≤ i + d ∧ (0 < d → i < filF most ps d i)
  | 0, i => by simp [filF]
  | d + 1, i => by
    have := filF_bd most ps d (i + 1)
    unfold filF
    split <;> omega
theorem fil_pos {most : Nat} {ps : Ps} (h : ps ≠ []) : 1 ≤ fil most ps := (filF_bd most ps ps.length 0).2.2 (List.length_pos_iff.2 h)
theorem fil_le (most : Nat) (ps : Ps) : fil most ps ≤ ps.length := by have := (filF_bd most ps ps.length 0).2.1; unfold fil; omega
/-- Entries parted into blocks. -/
def chF (most : Nat) : Nat → Ps → List Ps
  | 0, _ => []
  | f + 1, ps => if ps.length = 0 then [] else ps.take (fil most ps) :: chF most f (ps.drop (fil most ps))
def chs (most : Nat) (ps : Ps) : List Ps := chF most ps.length ps
theorem chF_fuel (most : Nat) : ∀ (f g : Nat) (ps : Ps), ps.length ≤ f → ps.length ≤ g → chF most f ps = chF most g ps
  | 0, 0, _, _, _ => rfl
  | 0, g + 1, ps, h, _ => by rw [chF, chF, if_pos (by omega)]
  | f + 1, 0, ps, _, h => by rw [chF, chF, if_pos (by omega)]
  | f + 1, g + 1, ps, h1, h2 => by
    rw [chF, chF]
    split
    · rfl
    · rename_i hz
      have := fil_pos (most := most) (ps := ps) (by intro e; rw [e] at hz; simp at hz)
      rw [chF_fuel most f g _ (by rw [List.length_drop]; omega) (by rw [List.length_drop]; omega)]
theorem chs_nil (most : Nat) : chs most [] = [] := rfl
theorem chs_cons {most : Nat} {ps : Ps} (h : ps ≠ []) : chs most ps = ps.take (fil most ps) :: chs most (ps.drop (fil most ps)) := by
  have hl := List.length_pos_iff.2 h
  have hp := fil_pos (most := most) h
  unfold chs
  rcases hn : ps.length with _ | n
  · omega
  · rw [chF, if_neg (by omega), chF_fuel most n _ _ (by rw [List.length_drop]; omega) (Nat.le_refl _)]
theorem chF_flat (most : Nat) : ∀ (f : Nat) (ps : Ps), ps.length ≤ f → (chF most f ps).flatten = ps ∧ ∀ c ∈ chF most f ps, c ≠ []
  | 0, ps, h => by
    have : ps = [] := List.eq_nil_of_length_eq_zero (by omega)
    subst this; simp [chF]
  | f + 1, ps, h => by
    rw [chF]
    split
    · rename_i hz
      have : ps = [] := List.eq_nil_of_length_eq_zero hz
      subst this; simp
    · rename_i hz
      have hp := fil_pos (most := most) (ps := ps) (by intro e; rw [e] at hz; simp at hz)
      have ih := chF_flat most f (ps.drop (fil most ps)) (by rw [List.length_drop]; omega)
      refine ⟨by rw [List.flatten_cons, ih.1, List.take_append_drop], fun c hc => ?_⟩
      rcases List.mem_cons.1 hc with rfl | hc
      · intro e
        have := congrArg List.length e
        rw [List.length_take, List.length_nil] at this; omega
      · exact ih.2 c hc
theorem chs_flat (most : Nat) (ps : Ps) : (chs most ps).flatten = ps ∧ ∀ c ∈ chs most ps, c ≠ [] := chF_flat most ps.length ps (Nat.le_refl _)

def sealL (b : List Nat) : List Nat := b ++ fixL (crc b) 4
theorem sealL_len (b : List Nat) : (sealL b).length = b.length + 4 := by unfold sealL; rw [List.length_append, fixL_len]
theorem sealL_by {b : List Nat} (h : By b) : By (sealL b) := h.append (fixL_by _ _)
/-- Data blocks. -/
def datL (r : Nat) (D : List Ps) : List Nat := D.flatMap fun c => sealL (blk r c)
theorem datL_nil (r : Nat) : datL r [] = [] := rfl
theorem datL_cons (r : Nat) (c : Ps) (D : List Ps) : datL r (c :: D) = sealL (blk r c) ++ datL r D := List.flatMap_cons
theorem datL_append (r : Nat) (D E : List Ps) : datL r (D ++ E) = datL r D ++ datL r E := List.flatMap_append
theorem datL_snoc (r : Nat) (D : List Ps) (c : Ps) : datL r (D ++ [c]) = datL r D ++ sealL (blk r c) := by
  rw [datL_append, datL_cons, datL_nil, List.append_nil]
def lastK (c : Ps) : List Nat := kA c (c.length - 1)
/-- The index's entries. -/
def idxF (r : Nat) : Nat → List Ps → Ps
  | _, [] => []
  | t, c :: D => (lastK c, putL t ++ putL (blk r c).length) :: idxF r (t + (blk r c).length + 4) D
theorem idxF_snoc (r : Nat) (c : Ps) : ∀ (D : List Ps) (t : Nat), idxF r t (D ++ [c]) = idxF r t D ++ [(lastK c, putL (t + (datL r D).length) ++ putL (blk r c).length)]
  | [], t => by simp [idxF, datL]
  | d :: D, t => by
    rw [List.cons_append, idxF, idxF_snoc r c D, idxF, datL_cons, List.length_append, sealL_len, List.cons_append, show t + (blk r d).length + 4 + (datL r D).length = t + ((blk r d).length + 4 + (datL r D).length) from by omega]
theorem idxF_len (r : Nat) : ∀ (D : List Ps) (t : Nat), (idxF r t D).length = D.length
  | [], _ => rfl
  | _ :: D, _ => by rw [idxF, List.length_cons, idxF_len r D, List.length_cons]
theorem idxF_at (r : Nat) : ∀ (D : List Ps) (t i : Nat) (c : Ps), D[i]? = some c → (idxF r t D)[i]? = some (lastK c, putL (t + (datL r (D.take i)).length) ++ putL (blk r c).length)
  | [], _, _, _, h => by simp at h
  | d :: D, t, 0, c, h => by
    simp only [List.getElem?_cons_zero, Option.some.injEq] at h
    subst h; rw [idxF, List.getElem?_cons_zero, List.take_zero, datL_nil]; rfl
  | d :: D, t, i + 1, c, h => by
    rw [idxF, List.getElem?_cons_succ, idxF_at r D _ i c (by simpa using h), List.take_succ_cons, datL_cons, List.length_append, sealL_len, show t + (blk r d).length + 4 + (datL r (D.take i)).length = t + ((blk r d).length + 4 + (datL r (D.take i)).length) from by omega]
theorem lastK_mem {c : Ps} (h : c ≠ []) : ∃ v, (lastK c, v) ∈ c := by
  have hl := List.length_pos_iff.2 h
  exact ⟨_, List.mem_of_getElem? (ps_at (ps := c) (i := c.length - 1) (by omega))⟩
theorem idx_keys {r : Nat} : ∀ (D : List Ps) (t : Nat), (∀ c ∈ D, c ≠ []) → ((idxF r t D).map (·.1)).Sublist (D.flatten.map (·.1))
  | [], _, _ => by simp [idxF]
  | c :: D, t, h => by
    rw [idxF, List.map_cons, List.flatten_cons, List.map_append, ← List.singleton_append]
    refine List.Sublist.append ?_ (idx_keys D _ fun c hc => h c (by simp [hc]))
    obtain ⟨v, hv⟩ := lastK_mem (h c (by simp))
    exact List.singleton_sublist.2 (List.mem_map.2 ⟨_, hv, rfl⟩)
theorem asc_keys {ps : Ps} : Asc ps ↔ (∀ k ∈ ps.map (·.1), isK k = true) ∧ (ps.map (·.1)).Pairwise fun a b => ordK a b < 0 := by
  unfold Asc
  rw [List.pairwise_map]
  simp
theorem idx_rises {r : Nat} {D : List Ps} {t : Nat} (h : ∀ c ∈ D, c ≠ []) (hr : Rises D.flatten) : Rises (idxF r t D) := by
  have ha := asc_keys.1 (asc_of hr)
  have hs := idx_keys (r := r) D t h
  exact rises_of (asc_keys.2 ⟨fun k hk => ha.1 k (hs.subset hk), ha.2.sublist hs⟩)
theorem chunk_rises {D : List Ps} (hr : Rises D.flatten) {c : Ps} (hc : c ∈ D) : Rises c := hr.sub (List.sublist_flatten_of_mem hc)
theorem chunk_by {D : List Ps} (hr : ByP D.flatten) {c : Ps} (hc : c ∈ D) : ByP c := hr.sub (List.sublist_flatten_of_mem hc)
theorem idx_by {r : Nat} : ∀ (D : List Ps) (t : Nat), ByP D.flatten → (∀ c ∈ D, c ≠ []) → ByP (idxF r t D)
  | [], _, _, _ => fun p hp => by simp [idxF] at hp
  | c :: D, t, hb, h => fun p hp => by
    rw [idxF] at hp
    rcases List.mem_cons.1 hp with rfl | hp
    · obtain ⟨v, hv⟩ := lastK_mem (h c (by simp))
      have hm : (lastK c, v) ∈ (c :: D).flatten := by rw [List.flatten_cons]; exact List.mem_append_left _ hv
      exact ⟨(hb _ hm).1, (putL_by _).append (putL_by _)⟩
    · exact idx_by D _ (fun p hp => hb p (by rw [List.flatten_cons]; exact List.mem_append_right _ hp)) (fun c hc => h c (by simp [hc])) p hp

/-- The user keys, each once. -/
def usN (ps : Ps) : Nat → List (List Nat)
  | 0 => []
  | i + 1 => if (usN ps i).getLast? = some (userL (kA ps i)) then usN ps i else usN ps i ++ [userL (kA ps i)]
theorem usN_len (ps : Ps) : ∀ i, (usN ps i).length ≤ i
  | 0 => by simp [usN]
  | i + 1 => by
    have := usN_len ps i
    unfold usN
    split
    · omega
    · rw [List.length_append]; simp; omega
theorem usN_mem (ps : Ps) : ∀ (n i : Nat), i < n → userL (kA ps i) ∈ usN ps n
  | 0, i, h => by omega
  | n + 1, i, h => by
    unfold usN
    by_cases e : i = n
    · subst e
      split
      · rename_i hl; exact List.mem_of_getLast? hl
      · simp
    · have := usN_mem ps n i (by omega)
      split
      · exact this
      · exact List.mem_append_left _ this
theorem usN_all (ps : Ps) (P : List Nat → Prop) (h : ∀ i, i < ps.length → P (userL (kA ps i))) : ∀ n, n ≤ ps.length → ∀ u ∈ usN ps n, P u
  | 0, _, u, hu => by simp [usN] at hu
  | n + 1, hn, u, hu => by
    unfold usN at hu
    split at hu
    · exact usN_all ps P h n (by omega) u hu
    · rcases List.mem_append.1 hu with hu | hu
      · exact usN_all ps P h n (by omega) u hu
      · simp at hu; rw [hu]; exact h n (by omega)
def magicL : List Nat := [109, 111, 114, 97, 105, 110, 101, 49]
def numsL (a b c d : Nat) : List Nat := fixL a 8 ++ (fixL b 8 ++ (fixL c 8 ++ fixL d 8))
theorem numsL_len (a b c d : Nat) : (numsL a b c d).length = 32 := by unfold numsL; simp only [List.length_append, fixL_len]
def footL (a b c d : Nat) : List Nat := numsL a b c d ++ (fixL (crc (numsL a b c d)) 4 ++ magicL)
theorem numsL_by (a b c d : Nat) : By (numsL a b c d) := (fixL_by _ _).append ((fixL_by _ _).append ((fixL_by _ _).append (fixL_by _ _)))
theorem magicL_by : By magicL := by unfold By magicL; decide
/-- A table of data blocks, a filter and an index. -/
def layL (d f x : List Nat) : List Nat := d ++ (sealL f ++ (sealL x ++ footL d.length f.length (d.length + f.length + 4) x.length))
def tblL (r most bits : Nat) (ps : Ps) : List Nat := layL (datL r (chs most ps)) (fltL bits (usN ps ps.length)) (blk 1 (idxF r 0 (chs most ps)))
theorem datL_by {r : Nat} : ∀ {D : List Ps}, ByP D.flatten → By (datL r D)
  | [], _ => fun n h => by simp [datL] at h
  | c :: D, h => by
    rw [datL_cons]
    exact (sealL_by (blk_by (fun p hp => h p (by rw [List.flatten_cons]; exact List.mem_append_left _ hp)) r)).append (datL_by fun p hp => h p (by rw [List.flatten_cons]; exact List.mem_append_right _ hp))
theorem footL_by (a b c d : Nat) : By (footL a b c d) := (numsL_by _ _ _ _).append ((fixL_by _ _).append magicL_by)
theorem layL_by {d f x : List Nat} (hd : By d) (hf : By f) (hx : By x) : By (layL d f x) := hd.append ((sealL_by hf).append ((sealL_by hx).append (footL_by _ _ _ _)))
theorem tblL_by {r most bits : Nat} {ps : Ps} (h : ByP ps) : By (tblL r most bits ps) := by
  have hf := chs_flat most ps
  exact layL_by (datL_by (by rw [hf.1]; exact h)) (fltL_by _ _) (blk_by (idx_by _ _ (by rw [hf.1]; exact h) hf.2) 1)
end Go.Proofs.YtnnookkcnmgbfaaGreat
