/-
  Blocks without the program: what is read of a block is what was laid down, and what is read as one is one.
-/
import Derived.Test.YthmlpjogbdpgiaaBN
namespace Go.Proofs.Ythmlpjogbdpgiaa

/-- A block's entries, and its places: how many bytes lie ahead of the places; none, if there are too few. -/
def halfL (b : List Nat) : Option Nat :=
  if 4 ≤ b.length ∧ unf (b.drop (b.length - 4)) ≤ (b.length - 4) / 4 then some (b.length - 4 - 4 * unf (b.drop (b.length - 4))) else none
def bodL (b : List Nat) (k : Nat) : List Nat := b.take k
def plcL (b : List Nat) (k : Nat) : List Nat := (b.drop k).take (b.length - 4 - k)
theorem half_blk {r : Nat} {ps : Ps} (hn : ps.length < 1073741824) : halfL (blk r ps) = some (bod r ps ps.length).length ∧ bodL (blk r ps) (bod r ps ps.length).length = bod r ps ps.length ∧ plcL (blk r ps) (bod r ps ps.length).length = plc r ps ps.length := by
  have h4 := plc_four r ps ps.length
  have hl := plc_le r ps ps.length
  have e1 : (blk r ps).length = (bod r ps ps.length).length + (plc r ps ps.length).length + 4 := by
    unfold blk; simp only [List.length_append, fixL_len]; omega
  have e2 : (blk r ps).drop ((blk r ps).length - 4) = fixL ((plc r ps ps.length).length / 4) 4 := by
    rw [show (blk r ps).length - 4 = (bod r ps ps.length ++ plc r ps ps.length).length from by rw [e1, List.length_append]; omega]
    unfold blk
    rw [← List.append_assoc, List.drop_left]
  have e3 : unf (fixL ((plc r ps ps.length).length / 4) 4) = (plc r ps ps.length).length / 4 := by
    rw [unf_fixL, Nat.mod_eq_of_lt]
    have : (256 : Nat) ^ 4 = 4294967296 := rfl
    omega
  refine ⟨?_, ?_, ?_⟩
  · unfold halfL
    rw [e2, e3, e1, if_pos (by omega)]
    congr 1; omega
  · unfold bodL blk; rw [List.take_left]
  · unfold plcL
    rw [e1, show (bod r ps ps.length).length + (plc r ps ps.length).length + 4 - 4 - (bod r ps ps.length).length = (plc r ps ps.length).length from by omega]
    unfold blk; rw [List.drop_left, List.take_left]
theorem half_inv {b : List Nat} (hb : By b) {k : Nat} (h : halfL b = some k) : k + 4 ≤ b.length ∧ b = bodL b k ++ (plcL b k ++ fixL ((plcL b k).length / 4) 4) := by
  unfold halfL at h
  split at h
  · rename_i hc
    simp only [Option.some.injEq] at h
    obtain ⟨h1, h2⟩ := hc
    have hk : k + 4 ≤ b.length := by omega
    have e1 : (plcL b k).length = 4 * unf (b.drop (b.length - 4)) := by
      unfold plcL; rw [List.length_take, List.length_drop]; omega
    refine ⟨hk, ?_⟩
    have e2 : fixL ((plcL b k).length / 4) 4 = b.drop (b.length - 4) := by
      have h3 := fixL_unf (b.drop (b.length - 4)) (hb.drop _)
      rw [List.length_drop, show b.length - (b.length - 4) = 4 from by omega] at h3
      rw [e1, show 4 * unf (b.drop (b.length - 4)) / 4 = unf (b.drop (b.length - 4)) from by omega]; exact h3
    rw [e2]
    have e3 : b.drop (b.length - 4) = (b.drop k).drop (b.length - 4 - k) := by rw [List.drop_drop]; congr 1; omega
    unfold plcL bodL
    rw [e3, List.take_append_drop, List.take_append_drop]
  · cases h
/-- What is read as a block is one. -/
theorem blk_read {b : List Nat} (hb : By b) {k f c : Nat} {ls : List Ln} (h1 : halfL b = some k) (h2 : linesF f (bodL b k) 0 [] = some ls) (h3 : Good c ls (plcL b k)) : Blk b (psL ls) c := by
  obtain ⟨hk, e⟩ := half_inv hb h1
  obtain ⟨e1, ok⟩ := linesF_inv (hb.take k) f 0 [] ls (Nat.zero_le _) h2
  obtain ⟨g1, g2, g3, g4⟩ := h3
  refine ⟨ok.rises, g1, g2, ?_⟩
  have e2 := cat_bod g3 ls.length (Nat.le_refl _)
  rw [List.take_length] at e2
  have e3 := pl_plc ok g3 ls.length (Nat.le_refl _)
  unfold blk
  rw [psL_len, ← e2, ← e3, g4]
  have : catL ls = bodL b k := by rw [← e1, List.drop_zero]; rfl
  rw [this]; exact e.symm
theorem lnA_lns (r : Nat) (ps : Ps) {i : Nat} (h : i < ps.length) : lnA (lns r ps 0 ps.length) i = ln r ps i := by
  unfold lnA; rw [lns_at r ps _ 0 i h, Nat.zero_add]; rfl
theorem shd_small {r c : Nat} (ps : Ps) {n i : Nat} (hr : n ≤ r) (hc : n ≤ c) (hi : i < n) : shd r ps i = shd c ps i := by
  unfold shd
  rw [Nat.mod_eq_of_lt (by omega), Nat.mod_eq_of_lt (by omega)]
theorem oks_lns (r : Nat) (ps : Ps) : OkS r (lns r ps 0 ps.length) (lns r ps 0 ps.length).length := fun i hi => by
  rw [lns_len] at hi
  rw [lnA_lns r ps hi, psL_lns]; rfl
theorem pln_lns (r : Nat) (ps : Ps) : ∀ i, i ≤ ps.length → plN r (lns r ps 0 ps.length) i = plc r ps i
  | 0, _ => rfl
  | i + 1, h => by rw [plN, plc, pln_lns r ps i (by omega), lnA_lns r ps (by omega)]; rfl
theorem pln_small {r c : Nat} (ls : List Ln) : ∀ (i : Nat), i ≤ r → i ≤ c → plN r ls i = plN c ls i
  | 0, _, _ => rfl
  | i + 1, h1, h2 => by rw [plN, plN, pln_small (r := r) (c := c) ls i (by omega) (by omega), Nat.mod_eq_of_lt (show i < r from h1), Nat.mod_eq_of_lt (show i < c from h2)]
/-- Which restart may have led to places: what a search finds of it. -/
def RsO (ls : List Ln) (pl : List Nat) (c : Nat) : Prop :=
  (pl.length < 8 ∧ c = 64) ∨ (8 ≤ pl.length ∧ c ≤ ls.length ∧ (c < ls.length → unf ((pl.drop 4).take 4) ≤ (lnA ls c).pos) ∧ (0 < c → (lnA ls (c - 1)).pos < unf ((pl.drop 4).take 4)))
/-- A block is read so. -/
theorem read_blk {b : List Nat} {ps : Ps} {r : Nat} (B : Blk b ps r) (hn : ps.length < 1073741824) (hl : (bod r ps ps.length).length < 4294967296) {f : Nat} (hf : (bod r ps ps.length).length < f) :
    halfL b = some (bod r ps ps.length).length ∧ linesF f (bodL b (bod r ps ps.length).length) 0 [] = some (lns r ps 0 ps.length) ∧ ∀ c, RsO (lns r ps 0 ps.length) (plcL b (bod r ps ps.length).length) c → Good c (lns r ps 0 ps.length) (plcL b (bod r ps ps.length).length) := by
  obtain ⟨h1, h2, h3⟩ := half_blk (r := r) (ps := ps) hn
  obtain ⟨b1, b2, b3, rfl⟩ := B
  have hlen : ps.length ≤ (bod r ps ps.length).length := by
    have : ∀ i, i ≤ (bod r ps i).length := by
      intro i
      induction i with
      | zero => simp
      | succ i ih => have := bod_lt r ps (i := i) (j := i + 1) (by omega); omega
    exact this _
  refine ⟨h1, ?_, fun c hc => ?_⟩
  · rw [h2]
    have := linesF_bod b1 (n := ps.length) (Nat.le_refl _) (r := r) (by omega) ps.length 0 f (by omega) (by omega)
    exact this
  · rw [h3] at hc ⊢
    rcases hc with ⟨c1, rfl⟩ | ⟨c1, c2, c3, c4⟩
    · have hle : ps.length ≤ r := by
        rcases Nat.lt_or_ge r ps.length with hlt | hge
        · obtain ⟨x, hx⟩ := plc_second b2 ps hlt
          rw [hx, List.length_append, List.length_append, fixL_len, fixL_len] at c1
          omega
        · exact hge
      refine ⟨by omega, by omega, fun i hi => ?_, ?_⟩
      · rw [oks_lns r ps i hi]
        rw [lns_len] at hi
        rw [psL_lns]
        exact shd_small ps hle (by omega) hi
      · rw [lns_len, pln_small _ ps.length (show ps.length ≤ 64 from by omega) hle, pln_lns r ps _ (Nat.le_refl _)]
    · have hlt : r < ps.length := by
        rcases Nat.lt_or_ge r ps.length with hlt | hge
        · exact hlt
        · exfalso
          rcases Nat.eq_zero_or_pos ps.length with h0 | h0
          · rw [h0] at c1; simp [plc] at c1
          · rw [plc_small b2 ps _ h0 hge, fixL_len] at c1; omega
      obtain ⟨x, hx⟩ := plc_second b2 ps hlt
      have hsec : unf ((plc r ps ps.length).drop 4 |>.take 4) = (bod r ps r).length := by
        have d4 : (plc r ps ps.length).drop 4 = fixL (bod r ps r).length 4 ++ x := by
          rw [hx]
          have := List.drop_left (l₁ := fixL 0 4) (l₂ := fixL (bod r ps r).length 4 ++ x)
          rwa [fixL_len] at this
        rw [d4]
        have t4 : (fixL (bod r ps r).length 4 ++ x).take 4 = fixL (bod r ps r).length 4 := by
          have := List.take_left (l₁ := fixL (bod r ps r).length 4) (l₂ := x)
          rwa [fixL_len] at this
        rw [t4, unf_fixL, Nat.mod_eq_of_lt]
        have := bod_le r ps (i := r) (j := ps.length) (by omega)
        have : (256 : Nat) ^ 4 = 4294967296 := rfl
        omega
      rw [hsec] at c3 c4
      rw [lns_len] at c2 c3
      have hcr : c = r := by
        rcases Nat.lt_trichotomy c r with h | h | h
        · have := c3 (by omega)
          rw [lnA_lns r ps (by omega)] at this
          have h' := bod_lt r ps h
          simp only [ln] at this
          omega
        · exact h
        · have := c4 (by omega)
          rw [lnA_lns r ps (by omega)] at this
          have h' := bod_le r ps (i := r) (j := c - 1) (by omega)
          simp only [ln] at this
          omega
      subst hcr
      exact ⟨b2, b3, oks_lns c ps, by rw [lns_len, pln_lns c ps _ (Nat.le_refl _)]⟩
theorem blk_one {b : List Nat} {ps ps' : Ps} {r r' : Nat} (B : Blk b ps r) (B' : Blk b ps' r') (hb : b.length < 1073741824) : ps = ps' := by
  have hlen : ∀ {ps : Ps} {r : Nat}, Blk b ps r → ps.length < 1073741824 ∧ (bod r ps ps.length).length < 1073741824 := by
    intro ps r B
    have h1 : ∀ i, i ≤ (bod r ps i).length := by
      intro i
      induction i with
      | zero => simp
      | succ i ih => have := bod_lt r ps (i := i) (j := i + 1) (by omega); omega
    have h2 := h1 ps.length
    have h3 : (blk r ps).length = b.length := by rw [B.eq]
    unfold blk at h3
    rw [List.length_append] at h3
    omega
  obtain ⟨x1, x2, _⟩ := read_blk B (hlen B).1 (by have := (hlen B).2; omega) (f := 4294967296) (by have := (hlen B).2; omega)
  obtain ⟨y1, y2, _⟩ := read_blk B' (hlen B').1 (by have := (hlen B').2; omega) (f := 4294967296) (by have := (hlen B').2; omega)
  rw [x1, Option.some.injEq] at y1
  rw [← y1, x2, Option.some.injEq] at y2
  have := congrArg psL y2
  rwa [psL_lns, psL_lns] at this
end Go.Proofs.Ythmlpjogbdpgiaa
