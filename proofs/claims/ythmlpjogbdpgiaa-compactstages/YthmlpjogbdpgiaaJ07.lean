/-
  Blocks without the program: what is read of a block is what was laid down, and what is read as one is one.
-/
import Derived.Test.YthmlpjogbdpgiaaBN
namespace Go.Proofs.Ythmlpjogbdpgiaa

/-- A block's entries, and its places: how many bytes lie ahead of the places; none, if there are too few. -/
def halfL (b : List Nat) : Option Nat :=
  if 4 ≤ b.length ∧ unf (b.drop (b.length - 4)) ≤ (b.length - 4) / 4 then some (b.length - 4 - 4 * unf (b.drop (b.length - 4))) else none
def bodL (b : List Nat) (k : Nat) : List Nat := b.take k
def plcL (b : List Nat) (k : Nat) : List Nat := (b.drop k).take (b.length - 4 - k)
theorem half_blk {r : Nat} {ps : Ps} (hn : ps.length < 1073741824) : halfL (blk r ps) = some (bod r ps ps.length).length ∧ bodL (blk r ps) (bod r ps ps.length).length = bod r ps ps.length ∧ plcL (blk r ps) (bod r ps ps.length).length = plc r ps ps.length := by
  have h4 := plc_four r ps ps.length
  have hl := plc_le r ps ps.length
  have e1 : (blk r ps).length = (bod r ps ps.length).length + (plc r ps ps.length).length + 4 := by
    unfold blk; simp only [List.length_append, fixL_len]; omega
  have e2 : (blk r ps).drop ((blk r ps).length - 4) = fixL ((plc r ps ps.length).length / 4) 4 := by
    rw [show (blk r ps).length - 4 = (bod r ps ps.length ++ plc r ps ps.length).length from by rw [e1, List.length_append]; omega]
    unfold blk
    rw [← List.append_assoc, List.drop_left]
  have e3 : unf (fixL ((plc r ps ps.length).length / 4) 4) = (plc r ps ps.length).length / 4 := by
    rw [unf_fixL, Nat.mod_eq_of_lt]
    have : (256 : Nat) ^ 4 = 4294967296 := rfl
    omega
  refine ⟨?_, ?_, ?_⟩
  · unfold halfL
    rw [e2, e3, e1, if_pos (by omega)]
    congr 1; omega
  · unfold bodL blk; rw [List.take_left]
  · unfold plcL
    rw [e1, show (bod r ps ps.length).length + (plc r ps ps.length).length + 4 - 4 - (bod r ps ps.length).length = (plc r ps ps.length).length from by omega]
    unfold blk; rw [List.drop_left, List.take_left]
theorem half_inv {b : List Nat} (hb : By b) {k : Nat} (h : halfL b = some k) : k + 4 ≤ b.length ∧ b = bodL b k ++ (plcL b k ++ fixL ((plcL b k).length / 4) 4) := by
  unfold halfL at h
  split at h
  · rename_i hc
    simp only [Option.some.injEq] at h
    obtain ⟨h1, h2⟩ := hc
    have hk : k + 4 ≤ b.length := by omega
    have e1 : (plcL b k).length = 4 * unf (b.drop (b.length - 4)) := by
      unfold plcL; rw [List.length_take, List.length_drop]; omega
    refine ⟨hk, ?_⟩
    have e2 : fixL ((plcL b k).length / 4) 4 = b.drop (b.length - 4) := by
      have h3 := fixL_unf (b.drop (b.length - 4)) (hb.drop _)
      rw [List.length_drop, show b.length - (b.length - 4) = 4 from by omega] at h3
      rw [e1, show 4 * unf (b.drop (b.length - 4)) / 4 = unf (b.drop (b.length - 4)) from by omega]; exact h3
    rw [e2]
    have e3 : b.drop (b.length - 4) = (b.drop k).drop (b.length - 4 - k) := by rw [List.drop_drop]; congr 1; omega
    unfold plcL bodL
    rw [e3, List.take_append_drop, List.take_append_drop]
  · cases h
/-- What is read as a block is one. -/
theorem blk_read {b : List Nat} (hb : By b) {k f c : Nat} {ls : List Ln} (h1 : halfL b = some k) (h2 : linesF f (bodL b k) 0 [] = some ls) (h3 : Good c ls (plcL b k)) : Blk b (psL ls) c := by
  obtain ⟨hk, e⟩ := half_inv hb h1
  obtain ⟨e1, ok⟩ := linesF_inv (hb.take k) f 0 [] ls (Nat.zero_le _) h2
  obtain ⟨g1, g2, g3, g4⟩ := h3
  refine ⟨ok.rises, g1, g2, ?_⟩
  have e2 := cat_bod g3 ls.length (Nat.le_refl _)
  rw [List.take_length] at e2
  have e3 := pl_plc ok g3 ls.length (Nat.le_refl _)
  unfold blk
  rw [psL_len, ← e2, ← e3, g4]
  have : catL ls = bodL b k := by rw [← e1, List.drop_zero]; rfl
  rw [this]; exact e.symm
theorem lnA_lns (r : Nat) (ps : Ps) {i : Nat} (h : i < ps.length) : lnA (lns r ps 0 ps.length) i = ln r ps i := by
  unfold lnA; rw [lns_at r ps _ 0 i h, Nat.zero_add]; rfl
theorem shd_small {r c : Nat} (ps : Ps) {n i : Nat} (hr : n ≤ r) (hc : n ≤ c) (hi : i < n) : shd r ps i = shd c ps i := by
  unfold shd
  rw [Nat.mod_eq_of_lt (by omega), Nat.mod_eq_of_lt (by omega)]
theorem oks_lns (r : Nat) (ps : Ps) : OkS r (lns r ps 0 ps.length) (lns r ps 0 ps.length).length := fun i hi => by
  rw [lns_len] at hi
  rw [lnA_lns r ps hi, psL_lns]; rfl
theorem pln_lns (r : Nat) (ps : Ps) : ∀ i, i ≤ ps.length → plN r (lns r ps 0 ps.length) i = plc r ps i
  | 0, _ => rfl
  | i + 1, h => by rw [plN, plc, pln_lns r ps i (by omega), lnA_lns r ps (by omega)]; rfl
theorem pln_small {r c : Nat} (ls : List Ln) : ∀ (i : Nat), i ≤ r → i ≤ c → plN r ls i = plN c ls i
  | 0, _, _ => rfl
  | i + 1, h1, h2 => by rw [plN, plN, pln_small (r := r) (c := c) ls i (by omega) (by omega), Nat.mod_eq_of_lt (show i < r from h1), Nat.mod_eq_of_lt (show i < c from h2)]
/-- Which restart may have led to places: what a search finds of it. -/
def RsO (ls : List Ln) (pl : List Nat) (c : Nat) : Prop :=
  (pl.length < 8 ∧ c = 64) ∨ (8 ≤ pl.length ∧ c ≤ ls.length ∧ (c < ls.length → unf ((pl.drop 4).take 4) ≤ (lnA ls c).pos) ∧ (0 < c → (lnA ls (c - 1)).pos < unf ((pl.drop 4).take 4)))
/-- A block is read so. -/
theorem read_blk {b : List Nat} {ps : Ps} {r : Nat} (B : Blk b ps r) (hn : ps.length < 1073741824) (hl : (bod r ps ps.length).length < 4294967296) {f : Nat} (hf : (bod r ps ps.length).length < f) :
    halfL b = some (bod r ps ps.length).length ∧ linesF f (bodL b (bod r ps ps.length).length) 0 [] = some (lns r ps 0 ps.length) ∧ ∀ c, RsO (lns r ps 0 ps.length) (plcL b (bod r ps ps.length).length) c → Good c (lns r ps 0 ps.length) (plcL b (bod r ps ps.length).length) := by
  obtain ⟨h1, h2, h3⟩ := half_blk (r := r) (ps := ps) hn
  obtain ⟨b1, b2, b3, rfl⟩ := B
  have hlen : ps.length ≤ (bod r ps ps.length).length := by
    have : ∀ i, i ≤ (bod r ps i).length := by
      intro i
      induction i with
      | zero => simp
      | succ i ih => have := bod_lt r ps (i := i) (j := i + 1) (by omega); omega
    exact this _
  refine ⟨h1, ?_, fun c hc => ?_⟩
  · rw [h2]
    have := linesF_bod b1 (n := ps.length) (Nat.le_refl _) (r := r) (by omega) ps.length 0 f (by omega) (by omega)
    exact this
  · rw [h3] at hc ⊢
    rcases hc with ⟨c1, rfl⟩ | ⟨c1, c2, c3, c4⟩
    · have hle : ps.length ≤ r := by
        rcases Nat.lt_or_ge r ps.length with hlt | hge
        · obtain ⟨x, hx⟩ := plc_second b2 ps hlt
          rw [hx, List.length_append, List.length_append, fixL_len, fixL_len] at c1
          omega
        · exact hge
      refine ⟨by omega, by omega, fun i hi => ?_, ?_⟩
      · rw [oks_lns r ps i hi]
        rw [lns_len] at hi
        rw [psL_lns]
        exact shd_small ps hle (by omega) hi
      · rw [lns_len, pln_small _ ps.length (show ps.length ≤ 64 from by omega) hle, pln_lns r ps _ (Nat.le_refl _)]
    · have hlt : r < ps.length := by
        rcases Nat.lt_or_ge r ps.length with hlt | hge
        · exact hlt
        · exfalso
          rcases Nat.eq_zero_or_pos ps.length with h0 | h0
          · rw [h0] at c1; simp [plc] at c1
          · rw [plc_small b2 ps _ h0 hge, fixL_len] at c1; omega
      obtain ⟨x, hx⟩ := plc_second b2 ps hlt
      have hsec : unf ((plc r ps ps.length).drop 4 |>.take 4) = (bod r ps r).length := by
        have d4 : (plc r ps ps.length).drop 4 = fixL (bod r ps r).length 4 ++ x := by
          rw [hx]
          have := List.drop_left (l₁ := fixL 0 4) (l₂ := fixL (bod r ps r).length 4 ++ x)
          rwa [fixL_len] at this
        rw [d4]
        have t4 : (fixL (bod r ps r).length 4 ++ x).take 4 = fixL (bod r ps r).length 4 := by
          have := List.take_left (l₁ := fixL (bod r ps r).length 4) (l₂ := x)
          rwa [fixL_len] at this
        rw [t4, unf_fixL, Nat.mod_eq_of_lt]
        have := bod_le r ps (i := r) (j := ps.length) (by omega)
        have : (256 : Nat) ^ 4 = 4294967296 := rfl
        omega
      rw [hsec] at c3 c4
      rw [lns_len] at c2 c3
      have hcr : c = r := by
        rcases Nat.lt_trichotomy c r with h | h | h
        · have := c3 (by omega)
          rw [lnA_lns r ps (by omega)] at this
          have h' := bod_lt r ps h
          simp only [ln] at this
          omega
        · exact h
        · have := c4 (by omega)
          rw [lnA_lns r ps (by omega)] at this
          have h' := bod_le r ps (i := r) (j := c - 1) (by omega)
          simp only [ln] at this
          omega
      subst hcr
      exact ⟨b2, b3, oks_lns c ps, by rw [lns_len, pln_lns c ps _ (Nat.le_refl _)]⟩
theorem blk_one {b : List Nat} {ps ps' : Ps} {r r' : Nat} (B : Blk b ps r) (B' : Blk b ps' r') (hb : b.length < 1073741824) : ps = ps' := by
  have hlen : ∀ {ps : Ps} {r : Nat}, Blk b ps r → ps.length < 1073741824 ∧ (bod r ps ps.length).length < 1073741824 := by
    intro ps r B
    have h1 : ∀ i, i ≤ (bod r ps i).length := by
      intro i
      induction i with
      | zero => simp
      | succ i ih => have := bod_lt r ps (i := i) (j := i + 1) (by omega); omega
    have h2 := h1 ps.length
    have h3 : (blk r ps).length = b.length := by rw [B.eq]
    unfold blk at h3
    rw [List.length_append] at h3
    omega
  obtain ⟨x1, x2, _⟩ := read_blk B (hlen B).1 (by have := (hlen B).2; omega) (f := 4294967296) (by have := (hlen B).2; omega)
  obtain ⟨y1, y2, _⟩ := read_blk B' (hlen B').1 (by have := (hlen B').2; omega) (f := 4294967296) (by have := (hlen B').2; omega)
  rw [x1, Option.some.injEq] at y1
  rw [← y1, x2, Option.some.injEq] at y2
  have := congrArg psL y2
  rwa [psL_lns, psL_lns] at this
end Go.Proofs.Ythmlpjogbdpgiaa
namespace Go.Proofs.Ythmlpjogbdpgiaa

def hasB (m : List Nat) (b : Nat) : Bool := (m.getD (b / 8) 0).testBit (b % 8)
def setB (m : List Nat) (b : Nat) : List Nat := m.set (b / 8) (m.getD (b / 8) 0 ||| 2 ^ (b % 8))
theorem setB_len (m : List Nat) (b : Nat) : (setB m b).length = m.length := List.length_set
theorem getD_by {m : List Nat} (h : By m) (i : Nat) : m.getD i 0 < 256 := by
  rw [List.getD_eq_getElem?_getD]
  rcases hx : m[i]? with _ | x
  · simp
  · exact h x (List.mem_of_getElem? hx)
theorem setB_by {m : List Nat} (h : By m) (b : Nat) : By (setB m b) := fun n hn => by
  unfold setB at hn
  rcases List.mem_or_eq_of_mem_set hn with hn | hn
  · exact h n hn
  · rw [hn]
    have h1 := getD_by h (b / 8)
    have h2 : 2 ^ (b % 8) < 2 ^ 8 := Nat.pow_lt_pow_right (by omega) (by omega)
    exact Nat.or_lt_two_pow (n := 8) h1 h2
theorem has_set {m : List Nat} {b : Nat} (hb : b / 8 < m.length) (c : Nat) : hasB (setB m b) c = (hasB m c || decide (b = c)) := by
  unfold hasB setB
  by_cases h : c / 8 = b / 8
  · rw [h, List.getD_eq_getElem?_getD, List.getElem?_set_self hb, Option.getD_some, Nat.testBit_or, Nat.testBit_two_pow]
    congr 1
    have : (b % 8 = c % 8) = (b = c) := propext ⟨fun e => by omega, fun e => by rw [e]⟩
    simp only [this]
  · rw [List.getD_eq_getElem?_getD, List.getElem?_set_ne (fun e => h e.symm), ← List.getD_eq_getElem?_getD, decide_eq_false (fun e => h (by rw [e])), Bool.or_false]
def setN (H : Nat → Nat) (m : List Nat) : Nat → List Nat
  | 0 => m
  | j + 1 => setB (setN H m j) (H j)
theorem setN_len (H : Nat → Nat) (m : List Nat) : ∀ n, (setN H m n).length = m.length
  | 0 => rfl
  | n + 1 => by rw [setN, setB_len, setN_len H m n]
theorem setN_by (H : Nat → Nat) {m : List Nat} (h : By m) : ∀ n, By (setN H m n)
  | 0 => h
  | n + 1 => setB_by (setN_by H h n) _
theorem has_setN {H : Nat → Nat} {m : List Nat} (hH : ∀ j, H j / 8 < m.length) (c : Nat) : ∀ n, hasB (setN H m n) c = true ↔ (hasB m c = true ∨ ∃ j, j < n ∧ H j = c)
  | 0 => by simp [setN]
  | n + 1 => by
    rw [setN, has_set (by rw [setN_len]; exact hH n), Bool.or_eq_true, has_setN hH c n, decide_eq_true_iff]
    constructor
    · rintro ((h | ⟨j, hj, e⟩) | h)
      · exact .inl h
      · exact .inr ⟨j, by omega, e⟩
      · exact .inr ⟨n, by omega, h⟩
    · rintro (h | ⟨j, hj, e⟩)
      · exact .inl (.inl h)
      · by_cases hjn : j = n
        · subst hjn; exact .inr e
        · exact .inl (.inr ⟨j, by omega, e⟩)
def setK (Hs : Nat → Nat → Nat) (m : List Nat) (t : Nat) : Nat → List Nat
  | 0 => m
  | i + 1 => setN (Hs i) (setK Hs m t i) t
theorem setK_len (Hs : Nat → Nat → Nat) (m : List Nat) (t : Nat) : ∀ n, (setK Hs m t n).length = m.length
  | 0 => rfl
  | n + 1 => by rw [setK, setN_len, setK_len Hs m t n]
theorem setK_by (Hs : Nat → Nat → Nat) {m : List Nat} (h : By m) (t : Nat) : ∀ n, By (setK Hs m t n)
  | 0 => h
  | n + 1 => setN_by _ (setK_by Hs h t n) _
theorem has_setK {Hs : Nat → Nat → Nat} {m : List Nat} {t : Nat} (hH : ∀ i j, Hs i j / 8 < m.length) (c : Nat) : ∀ n, hasB (setK Hs m t n) c = true ↔ (hasB m c = true ∨ ∃ i, i < n ∧ ∃ j, j < t ∧ Hs i j = c)
  | 0 => by simp [setK]
  | n + 1 => by
    rw [setK, has_setN (fun j => by rw [setK_len]; exact hH n j), has_setK hH c n]
    constructor
    · rintro ((h | ⟨i, hi, e⟩) | h)
      · exact .inl h
      · exact .inr ⟨i, by omega, e⟩
      · exact .inr ⟨n, by omega, h⟩
    · rintro (h | ⟨i, hi, e⟩)
      · exact .inl (.inl h)
      · by_cases hin : i = n
        · subst hin; exact .inr e
        · exact .inl (.inr ⟨i, by omega, e⟩)
theorem marks_ext {m m' : List Nat} (h : By m) (h' : By m') (hl : m.length = m'.length) (he : ∀ c, hasB m c = hasB m' c) : m = m' := by
  refine List.ext_getElem hl fun i hi hi' => ?_
  apply Nat.eq_of_testBit_eq
  intro k
  have g1 : m.getD i 0 = m[i] := by rw [List.getD_eq_getElem?_getD, List.getElem?_eq_getElem hi]; rfl
  have g2 : m'.getD i 0 = m'[i] := by rw [List.getD_eq_getElem?_getD, List.getElem?_eq_getElem hi']; rfl
  rcases Nat.lt_or_ge k 8 with hk | hk
  · have := he (8 * i + k)
    unfold hasB at this
    rw [show (8 * i + k) / 8 = i from by omega, show (8 * i + k) % 8 = k from by omega, g1, g2] at this
    exact this
  · have b1 : m[i] < 2 ^ k := Nat.lt_of_lt_of_le (h _ (List.getElem_mem hi)) (Nat.pow_le_pow_right (n := 2) (by omega) hk)
    have b2 : m'[i] < 2 ^ k := Nat.lt_of_lt_of_le (h' _ (List.getElem_mem hi')) (Nat.pow_le_pow_right (n := 2) (by omega) hk)
    rw [Nat.testBit_lt_two_pow b1, Nat.testBit_lt_two_pow b2]

/-- A number of 32 bits turned right by 17. -/
def rt (h : Nat) : Nat := h * 32768 % 4294967296 ||| h / 131072
theorem rt_lt {h : Nat} (hh : h < 4294967296) : rt h < 4294967296 := Nat.or_lt_two_pow (n := 32) (Nat.mod_lt _ (by omega)) (by show h / 131072 < 2 ^ 32; omega)
def hs (h d : Nat) : Nat → Nat
  | 0 => h
  | j + 1 => (hs h d j + d) % 4294967296
theorem hs_lt {h d : Nat} (hh : h < 4294967296) : ∀ j, hs h d j < 4294967296
  | 0 => hh
  | j + 1 => Nat.mod_lt _ (by omega)
/-- The bits of a key among 8 times L. -/
def bt (L : Nat) (key : List Nat) (j : Nat) : Nat := hs (crc key) (rt (crc key)) j % (8 * L)
theorem bt_lt {L : Nat} (hL : 0 < L) (key : List Nat) (j : Nat) : bt L key j < 8 * L := Nat.mod_lt _ (by omega)
theorem bt_div {L : Nat} (hL : 0 < L) (key : List Nat) (j : Nat) : bt L key j / 8 < L := by have := bt_lt hL key j; omega
def rA (rs : List (List Nat)) (i : Nat) : List Nat := rs[i]?.getD []
/-- Bytes of a filter, turns in each key. -/
def fL (bits n : Nat) : Nat := max ((bits * n + 7) / 8) 8
def fT (bits : Nat) : Nat := min (max (bits * 69 / 100) 1) 30
def fM (L t : Nat) (rs : List (List Nat)) (n : Nat) : List Nat := setK (fun i j => bt L (rA rs i) j) (List.replicate L 0) t n
def fltL (bits : Nat) (rs : List (List Nat)) : List Nat := fM (fL bits rs.length) (fT bits) rs rs.length ++ [fT bits]
theorem rep_by (L : Nat) : By (List.replicate L 0) := fun n hn => by rw [List.eq_of_mem_replicate hn]; omega
theorem fM_len (L t : Nat) (rs : List (List Nat)) (n : Nat) : (fM L t rs n).length = L := by unfold fM; rw [setK_len, List.length_replicate]
theorem fM_by (L t : Nat) (rs : List (List Nat)) (n : Nat) : By (fM L t rs n) := setK_by _ (rep_by L) _ _
theorem fT_bd (bits : Nat) : 1 ≤ fT bits ∧ fT bits ≤ 30 := by unfold fT; omega
theorem fL_pos (bits n : Nat) : 8 ≤ fL bits n := by unfold fL; omega
theorem fltL_len (bits : Nat) (rs : List (List Nat)) : (fltL bits rs).length = fL bits rs.length + 1 := by unfold fltL; rw [List.length_append, fM_len]; rfl
theorem fltL_by (bits : Nat) (rs : List (List Nat)) : By (fltL bits rs) := (fM_by _ _ _ _).append (fun n hn => by simp at hn; rw [hn]; have := fT_bd bits; omega)
theorem rep_has (L c : Nat) : hasB (List.replicate L 0) c = false := by
  unfold hasB
  have : (List.replicate L 0).getD (c / 8) 0 = 0 := by
    rw [List.getD_eq_getElem?_getD, List.getElem?_replicate]
    split <;> rfl
  rw [this, Nat.zero_testBit]
theorem has_fM {L t : Nat} (hL : 0 < L) (rs : List (List Nat)) (c n : Nat) : hasB (fM L t rs n) c = true ↔ ∃ i, i < n ∧ ∃ j, j < t ∧ bt L (rA rs i) j = c := by
  unfold fM
  rw [has_setK (fun i j => by rw [List.length_replicate]; exact bt_div hL _ _), rep_has]
  simp
/-- Does a filter, its last byte left out, tell all bits of a key? -/
def mayL (m : List Nat) (key : List Nat) (t : Nat) : Bool := decide (∀ j, j < t → hasB m (bt m.length key j) = true)
theorem may_fM {L t : Nat} (hL : 0 < L) {rs : List (List Nat)} {i : Nat} (hi : i < rs.length) : mayL (fM L t rs rs.length) (rA rs i) t = true := by
  unfold mayL
  rw [decide_eq_true_iff]
  intro j hj
  rw [fM_len]
  exact (has_fM hL rs _ _).2 ⟨i, hi, j, hj, rfl⟩
theorem rA_mem {rs : List (List Nat)} {i : Nat} (h : i < rs.length) : rA rs i ∈ rs := by
  unfold rA; rw [List.getElem?_eq_getElem h]; exact List.getElem_mem h
theorem fM_same {L t : Nat} (hL : 0 < L) {rs rs' : List (List Nat)} (h : ∀ r, r ∈ rs ↔ r ∈ rs') : fM L t rs rs.length = fM L t rs' rs'.length := by
  refine marks_ext (fM_by _ _ _ _) (fM_by _ _ _ _) (by rw [fM_len, fM_len]) fun c => ?_
  have key : ∀ {a b : List (List Nat)}, (∀ r, r ∈ a → r ∈ b) → hasB (fM L t a a.length) c = true → hasB (fM L t b b.length) c = true := by
    intro a b hab hc
    obtain ⟨i, hi, j, hj, e⟩ := (has_fM hL a c _).1 hc
    obtain ⟨k, hk⟩ := List.getElem?_of_mem (hab _ (rA_mem hi))
    have hkl : k < b.length := by
      rcases Nat.lt_or_ge k b.length with h | h
      · exact h
      · rw [List.getElem?_eq_none h] at hk; cases hk
    refine (has_fM hL b c _).2 ⟨k, hkl, j, hj, ?_⟩
    have : rA b k = rA a i := by
      have e2 : rA b k = (b[k]?).getD [] := rfl
      rw [e2, hk]; rfl
    rw [this]; exact e
  rcases h1 : hasB (fM L t rs rs.length) c with _ | _
  · rcases h2 : hasB (fM L t rs' rs'.length) c with _ | _
    · rfl
    · have := key (fun r hr => (h r).2 hr) h2
      rw [h1] at this; cases this
  · rw [key (fun r hr => (h r).1 hr) h1]
end Go.Proofs.Ythmlpjogbdpgiaa
