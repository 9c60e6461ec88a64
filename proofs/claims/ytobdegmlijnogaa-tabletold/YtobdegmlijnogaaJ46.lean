/-
  What was built is opened, and its ranges are told.
-/
import Derived.Test.YtobdegmlijnogaaXZ
import Derived.Test.YtobdegmlijnogaaJ43
import Derived.Test.YtobdegmlijnogaaJ45
import Derived.Test.YtobdegmlijnogaaJ08
import Derived.Test.YtobdegmlijnogaaJ04
namespace Go.Proofs.Ytobdegmlijnogaa
open Go.ChangeShapes Go.WideShapes Go.ChangeAt Go.RowKit

/-- The blocks, one by one. -/
def blkA (D : List Ps) (i : Nat) : Ps := D[i]?.getD []
theorem blkA_at {D : List Ps} {i : Nat} {c : Ps} (h : D[i]? = some c) : blkA D i = c := by unfold blkA; rw [h]; rfl
theorem built_look {r : Nat} {D : List Ps} (hby : ByP D.flatten) (hr : Rises D.flatten) (hne : ∀ c ∈ D, c ≠ []) (hl : (datL r D).length ≤ 1000000000) (h1 : 1 ≤ r) (h2 : r ≤ 64) {i : Nat} (hi : i < (idxF r 0 D).length) :
    LookR (datL r D) (nxN (idxF r 0 D) i) (szA (idxF r 0 D) i) (kA (idxF r 0 D) i) 0 (blkA D i) ∧ nxN (idxF r 0 D) i + szA (idxF r 0 D) i + 4 ≤ (datL r D).length := by
  rw [idxF_len] at hi
  have hc : D[i]? = some D[i] := List.getElem?_eq_getElem hi
  have lk := idx_look (r := r) hby (by omega) hc
  have hle := dat_le (r := r) hc
  have hm := List.mem_of_getElem? hc
  rw [blkA_at hc]
  refine ⟨.inr (.inr ⟨rfl, lk.1, ⟨r, ?_⟩, hne _ hm, ((idx_val (by omega) hc).2).symm⟩), ?_⟩
  · rw [lk.2]
    exact ⟨chunk_rises hr hm, h1, h2, rfl⟩
  · rw [idx_nx (by omega) i (by omega), idx_sz (by omega) hc]
    exact hle
theorem range_built (w : World) {p r most : Nat} {ps : Ps} {flt : List Nat} {da fa : Option Addr} {dc fc G : Nat} (T : Tab w p (datL r (chs most ps)) flt (idxF r 0 (chs most ps)) da dc fa fc G) (hl : Lim ps) (hr : Rises ps) (hb : ByP ps) (h1 : 1 ≤ r) (h2 : r ≤ 64) {lev mov : Value} {least mk : List Nat} (rl : Rd w lev (bv least)) (rm : Rd w mov (bv mk)) (bl : By least) (bm : By mk) :
    Calls Try.prog 18 #[.pointer (some ⟨p, 0, none⟩), lev, mov] w fun e w' => ∃ v', e = .returned (.tuple #[v', .int .i64 0]) ∧ ColO w' w.heap.size v' (ps.filter (inR least mk)) ∧ Fr [] w w' := by
  have hf := chs_flat most ps
  have hD := hl.dat r most
  have hn := hl.n
  have hrD : Rises (chs most ps).flatten := by rw [hf.1]; exact hr
  have hbD : ByP (chs most ps).flatten := by rw [hf.1]; exact hb
  have bi := idx_by (r := r) _ 0 hbD hf.2
  refine (range_c w T (datL_by hbD) (by omega) bi (by rw [idxF_len]; omega) (fun i hi => (built_look hbD hrD hf.2 (by omega) h1 h2 hi).2) (X := fun _ => 0) (Q := blkA (chs most ps)) (fun i hi => (built_look hbD hrD hf.2 (by omega) h1 h2 hi).1) rl rm bl bm).mono ?_
  rintro e w' ⟨I, v', ⟨hI, _, hI2⟩, rfl, co, f⟩
  rw [idxF_len] at hI co ⊢
  have hR := rng_all hrD hf.2 (X := fun _ => 0) (Q := blkA (chs most ps)) (U := fun i => userL (kA (idxF r 0 (chs most ps)) i)) (fun i c hc => ⟨rfl, blkA_at hc, by rw [(idx_val (by omega) hc).2]⟩) least mk hI (fun h => by
    have := hI2 h
    unfold atU at this
    simp only [decide_eq_false_iff_not] at this
    omega)
  rw [hR, hf.1] at co
  rw [hR]
  exact ⟨v', rfl, co, f⟩
theorem all_built (w : World) {p r most : Nat} {ps : Ps} {flt : List Nat} {da fa : Option Addr} {dc fc G : Nat} (T : Tab w p (datL r (chs most ps)) flt (idxF r 0 (chs most ps)) da dc fa fc G) (hl : Lim ps) (hr : Rises ps) (hb : ByP ps) (h1 : 1 ≤ r) (h2 : r ≤ 64) :
    Calls Try.prog 11 #[.pointer (some ⟨p, 0, none⟩)] w fun e w' => ∃ v', e = .returned (.tuple #[v', .int .i64 0]) ∧ ColO w' w.heap.size v' ps ∧ Fr [] w w' := by
  have hf := chs_flat most ps
  have hD := hl.dat r most
  have hn := hl.n
  have hrD : Rises (chs most ps).flatten := by rw [hf.1]; exact hr
  have hbD : ByP (chs most ps).flatten := by rw [hf.1]; exact hb
  have bi := idx_by (r := r) _ 0 hbD hf.2
  refine (tall_c w T (datL_by hbD) (by omega) bi (by rw [idxF_len]; omega) (fun i hi => (built_look hbD hrD hf.2 (by omega) h1 h2 hi).2) (X := fun _ => 0) (Q := blkA (chs most ps)) (fun i hi => (built_look hbD hrD hf.2 (by omega) h1 h2 hi).1)).mono ?_
  rintro e w' ⟨v', rfl, co, f⟩
  rw [idxF_len] at co ⊢
  have hR := rng_all hrD hf.2 (X := fun _ => 0) (Q := blkA (chs most ps)) (U := fun i => userL (kA (idxF r 0 (chs most ps)) i)) (fun i c hc => ⟨rfl, blkA_at hc, by rw [(idx_val (by omega) hc).2]⟩) [] [] (Nat.zero_le _) (fun h => by omega)
  rw [Nat.sub_zero] at hR
  rw [hR, hf.1, filter_nil] at co
  rw [hR]
  exact ⟨v', rfl, co, f⟩
theorem topen_built (w : World) {r most bits : Nat} {ps : Ps} {v : Value} (o : Rd w v (bv (tblL r most bits ps))) (hl : Lim ps) (hr : Rises ps) (hb : ByP ps) (h0 : ps ≠ []) (hbits : bits ≤ 64) :
    Calls Try.prog 10 #[v] w fun e w' => ∃ p da dc fa fc G, e = .returned (.tuple #[.pointer (some ⟨p, 0, none⟩), .int .i64 0]) ∧ Tab w' p (datL r (chs most ps)) (fltL bits (usN ps ps.length)) (idxF r 0 (chs most ps)) da dc fa fc G ∧ Fr [] w w' := by
  have TO := tbl_open (r := r) (most := most) (bits := bits) hl hr hb h0 hbits
  rcases o.split with ⟨e, _⟩ | ⟨q, off, c, rfl, _⟩
  · have := TO.l44; rw [e] at this; simp at this
  · refine (open_ok w o (tblL_by hb) TO.len TO.op).mono ?_
    rintro e w' ⟨p, da, dc, fa, fc, G, rfl, tab, f⟩
    rw [TO.dat, TO.flt] at tab
    exact ⟨p, da, dc, fa, fc, G, rfl, tab, f⟩
end Go.Proofs.Ytobdegmlijnogaa
namespace Go.Proofs.Ytobdegmlijnogaa

theorem By.set8 {b : List Nat} (h : By b) {y : Nat} (hy : y < 256) (k : Nat) : By (b.set k y) := fun n hn => by
  rcases List.mem_or_eq_of_mem_set hn with h1 | h1
  · exact h n h1
  · rw [h1]; exact hy
theorem set_ne8 {b : List Nat} {k y : Nat} (hk : k < b.length) (hne : b[k]? ≠ some y) : b.set k y ≠ b := fun e => hne (by
  have : (b.set k y)[k]? = some y := by rw [List.getElem?_set_self hk]
  rw [e] at this
  exact this)
theorem wn_set_out {b : List Nat} {k y t n : Nat} (h : k < t ∨ t + n ≤ k) : wn (b.set k y) t n = wn b t n := by
  unfold wn
  rw [List.drop_set]
  rcases h with h | h
  · rw [if_pos h]
  · rw [if_neg (by omega), List.take_set, List.set_eq_of_length_le (by rw [List.length_take]; omega)]
theorem wn_set_in {b : List Nat} {k y t n : Nat} (h : t ≤ k) : wn (b.set k y) t n = (wn b t n).set (k - t) y := by
  unfold wn
  rw [List.drop_set, if_neg (by omega), List.take_set]
theorem wn_at {b : List Nat} {t n j : Nat} (h : j < n) : (wn b t n)[j]? = b[t + j]? := by
  unfold wn
  rw [List.getElem?_take_of_lt h, List.getElem?_drop]
theorem crc_set {m : List Nat} (hm : By m) {k y : Nat} (hk : k < m.length) (hy : y < 256) (hne : m[k]? ≠ some y) : crc (m.set k y) ≠ crc m := by
  have e1 : m = m.take k ++ m[k] :: m.drop (k + 1) := by rw [← List.drop_eq_getElem_cons hk, List.take_append_drop]
  have e2 : m.set k y = m.take k ++ y :: m.drop (k + 1) := List.set_eq_take_append_cons_drop.trans (if_pos hk)
  have hx : m[k] < 256 := hm _ (List.getElem_mem hk)
  rw [e2]
  intro h
  have h3 : crc (m.take k ++ y :: m.drop (k + 1)) = crc (m.take k ++ m[k] :: m.drop (k + 1)) := by rw [← e1]; exact h
  refine crc_change (hm.take k) hy hx (hm.drop _) ?_ h3
  intro e
  exact hne (by rw [List.getElem?_eq_getElem hk, e])
/-- A changed byte of what has a sum, or of the sum, is told by the sum. -/
theorem sum_set {b : List Nat} (hb : By b) {t n : Nat} (hl : t + n + 4 ≤ b.length) (hs : SumAt b t n) {k y : Nat} (h1 : t ≤ k) (h2 : k < t + n + 4) (hy : y < 256) (hne : b[k]? ≠ some y) : ¬ SumAt (b.set k y) t n := by
  unfold SumAt at hs ⊢
  by_cases h : k < t + n
  · rw [wn_set_out (t := t + n) (.inl h), wn_set_in h1, hs]
    refine fun e => crc_set (wn_by hb t n) (k := k - t) (by rw [wn_len (by omega)]; omega) hy ?_ e.symm
    rw [wn_at (by omega), show t + (k - t) = k from by omega]; exact hne
  · rw [wn_set_out (t := t) (n := n) (.inr (by omega)), wn_set_in (by omega), ← hs]
    intro e
    have hl4 : (wn b (t + n) 4).length = 4 := wn_len (by omega)
    refine set_ne8 (b := wn b (t + n) 4) (k := k - (t + n)) (y := y) (by omega) ?_ (unf_inj' ((wn_by hb _ _).set8 hy _) (wn_by hb _ _) (by rw [List.length_set]) e)
    rw [wn_at (by omega), show t + n + (k - (t + n)) = k from by omega]; exact hne
theorem nx_in {ips : Ps} : ∀ (n k : Nat), k < nxN ips n → ∃ i, i < n ∧ nxN ips i ≤ k ∧ k < nxN ips i + szA ips i + 4
  | 0, k, h => by simp [nxN] at h
  | n + 1, k, h => by
    by_cases hk : k < nxN ips n
    · obtain ⟨i, h1, h2⟩ := nx_in n k hk
      exact ⟨i, by omega, h2⟩
    · exact ⟨n, by omega, by omega, by rw [nxN] at h; omega⟩
theorem nx_le {ips : Ps} {i : Nat} : ∀ (n : Nat), i < n → nxN ips i + szA ips i + 4 ≤ nxN ips n
  | 0, h => by omega
  | n + 1, h => by
    by_cases e : i = n
    · subst e; exact Nat.le_refl _
    · have := nx_le (ips := ips) (i := i) n (by omega)
      rw [nxN]; omega
/-- A byte changed anywhere: what is opened all the same has a block that is hurt. -/
theorem told {b : List Nat} {ips ips' : Ps} {r r' : Nat} (hb : By b) (hlen : b.length ≤ 1000000000) (O : Opn b ips r) (hd : ∀ i, i < ips.length → SumAt (b.take (fAt b)) (nxN ips i) (szA ips i)) {k y : Nat} (hk : k < b.length) (hy : y < 256) (hne : b[k]? ≠ some y) (O' : Opn (b.set k y) ips' r') :
    ips' = ips ∧ fAt (b.set k y) = fAt b ∧ ∃ i, i < ips.length ∧ ¬ SumAt ((b.set k y).take (fAt b)) (nxN ips i) (szA ips i) := by
  have hL : (b.set k y).length = b.length := List.length_set
  have h44 := O.foot.len
  have hm := O.foot.mag
  have hm' := O'.foot.mag
  have hs' := O'.sum
  have hi := O.plc.hi
  have hf := O.plc.hf
  rw [hL] at hm' hs'
  have k1 : k < b.length - 8 := by
    rcases Nat.lt_or_ge k (b.length - 8) with h | h
    · exact h
    · exfalso
      rw [List.drop_set, if_neg (by omega), ← hm] at hm'
      refine set_ne8 (by rw [List.length_drop]; omega) ?_ hm'
      rw [List.getElem?_drop, show b.length - 8 + (k - (b.length - 8)) = k from by omega]; exact hne
  have k2 : k < b.length - 44 := by
    rcases Nat.lt_or_ge k (b.length - 44) with h | h
    · exact h
    · exact absurd hs' (sum_set hb (by omega) O.sum h (by omega) hy hne)
  have n1 : fAt (b.set k y) = fAt b := by unfold fAt n8; rw [hL, wn_set_out (.inl k2)]
  have n2 : fSz (b.set k y) = fSz b := by unfold fSz n8; rw [hL, wn_set_out (.inl (by omega))]
  have n3 : iAt (b.set k y) = iAt b := by unfold iAt n8; rw [hL, wn_set_out (.inl (by omega))]
  have n4 : iSz (b.set k y) = iSz b := by unfold iSz n8; rw [hL, wn_set_out (.inl (by omega))]
  have k3 : k < iAt b := by
    rcases Nat.lt_or_ge k (iAt b) with h | h
    · exact h
    · have := O'.isum
      rw [n3, n4] at this
      exact absurd this (sum_set hb (by omega) O.isum h (by omega) hy hne)
  have k4 : k < fAt b := by
    rcases Nat.lt_or_ge k (fAt b) with h | h
    · exact h
    · have := O'.fsum
      rw [n1, n2] at this
      exact absurd this (sum_set hb (by omega) O.fsum h (by omega) hy hne)
  have e : ips' = ips := by
    have h1 := O'.bl
    rw [n3, n4, wn_set_out (.inl k3)] at h1
    exact blk_one h1 O.bl (by rw [wn_len (by omega)]; omega)
  have hall := O.sp.all
  refine ⟨e, n1, ?_⟩
  obtain ⟨i, i1, i2, i3⟩ := nx_in (ips := ips) ips.length k (by omega)
  have i4 := nx_le (ips := ips) ips.length i1
  refine ⟨i, i1, ?_⟩
  rw [List.take_set]
  refine sum_set (hb.take _) (by rw [List.length_take]; omega) (hd i i1) i2 i3 hy ?_
  rw [List.getElem?_take_of_lt k4]; exact hne
end Go.Proofs.Ytobdegmlijnogaa
namespace Go.Proofs.Ytobdegmlijnogaa
open Go.ChangeShapes Go.WideShapes Go.ChangeAt Go.RowKit

theorem tbuild_own (w : World) {v : Value} {ps : Ps} (h : RdK w v ps) (hl : Lim ps) {b r i t : Int} {x : Nat} {X : List Nat} (hT : TbR b r i t ps x X) :
    Calls Try.prog 9 #[v, .agg #[.int .i64 b, .int .i64 r, .int .i64 i, .int .i64 t]] w fun e w' => ∃ v', e = .returned (.tuple #[v', .int .i64 (x : Int)]) ∧ w'.ownsRow w.heap.size 5 1 v' X.length (bv X) ∧ Fr [] w w' := by
  rcases hT with ⟨rfl, hp, rfl⟩ | ⟨rfl, hp, h0, rfl⟩ | ⟨rfl, hp, h0, hr, rfl⟩ | ⟨rfl, hp, h0, hr, rfl⟩
  · obtain ⟨a, c, rfl, _⟩ := h
    exact (tbuild_plan w b r i t hp).mono fun e w' ⟨e1, f⟩ => ⟨_, e1, World.ownsRow_nil _ _ _ _, f⟩
  · obtain ⟨a, c, rfl, _⟩ := h
    subst h0
    exact (tbuild_none w b r i t hp).mono fun e w' ⟨e1, f⟩ => ⟨_, e1, World.ownsRow_nil _ _ _ _, f⟩
  · exact (tbuild_order w h hl.n h0 b r i t hp hr).mono fun e w' ⟨e1, f⟩ => ⟨_, e1, World.ownsRow_nil _ _ _ _, f⟩
  · have hb := hp.b0
    have hr0 := hp.r0
    have hi := hp.i0
    obtain ⟨b', rfl⟩ : ∃ b' : Nat, b = (b' : Int) := ⟨b.toNat, by omega⟩
    obtain ⟨r', rfl⟩ : ∃ r' : Nat, r = (r' : Int) := ⟨r.toNat, by omega⟩
    obtain ⟨i', rfl⟩ : ∃ i' : Nat, i = (i' : Int) := ⟨i.toNat, by omega⟩
    simp only [Int.toNat_natCast]
    exact (tbuild_ok w h hl h0 b' r' i' t hp hr).mono fun e w' ⟨v', e1, o, f⟩ => ⟨_, e1, o, f⟩
theorem xor_ne8 {x y : Nat} (h : y ≠ 0) : x ^^^ y ≠ x := fun e => h (xorL (a := x) (by rw [e, Nat.xor_zero]))
/-- Opened, or not. -/
theorem opn_or (b : List Nat) : (∃ ips r, Opn b ips r) ∨ ∃ x, NoOpn b x := by
  by_cases h : ∃ x, NoOpn b x
  · exact .inr h
  · left
    by_cases h1 : Foot b
    · by_cases h2 : SumAt b (b.length - 44) 32
      · by_cases h3 : Plc b
        · by_cases h4 : SumAt b (iAt b) (iSz b) ∧ SumAt b (fAt b) (fSz b)
          · by_cases h5 : ∃ ips r, Blk (wn b (iAt b) (iSz b)) ips r ∧ Spans (fAt b) ips
            · obtain ⟨ips, r, h6, h7⟩ := h5
              exact ⟨ips, r, h1, h2, h3, h4.1, h4.2, h6, h7⟩
            · exact absurd ⟨80, .inr (.inr (.inr (.inr ⟨rfl, h1, h2, h3, h4.1, h4.2, fun ips r hb hs => h5 ⟨ips, r, hb, hs⟩⟩)))⟩ h
          · exact absurd ⟨81, .inr (.inr (.inr (.inl ⟨rfl, h1, h2, h3, h4⟩)))⟩ h
        · exact absurd ⟨80, .inr (.inr (.inl ⟨rfl, h1, h2, h3⟩))⟩ h
      · exact absurd ⟨81, .inr (.inl ⟨rfl, h1, h2⟩)⟩ h
    · exact absurd ⟨80, .inl ⟨rfl, h1⟩⟩ h
theorem noopn_x {b : List Nat} {x : Nat} (h : NoOpn b x) : x = 80 ∨ x = 81 := by
  rcases h with ⟨e, _⟩ | ⟨e, _⟩ | ⟨e, _⟩ | ⟨e, _⟩ | ⟨e, _⟩ <;> omega
/-- All of a table that was hurt. -/
theorem all_hurt (w : World) {p : Nat} {b flt : List Nat} {ips : Ps} {r fin : Nat} {da fa : Option Addr} {dc fc G : Nat} (hb : By b) (hl : b.length ≤ 1000000000) (O : Opn b ips r) (hfin : fAt b = fin) (T : Tab w p (b.take (fAt b)) flt ips da dc fa fc G) (hbi : ByP ips) (hn : ips.length ≤ 1000000000) (hurt : ∃ i, i < ips.length ∧ ¬ SumAt (b.take fin) (nxN ips i) (szA ips i)) :
    Calls Try.prog 11 #[.pointer (some ⟨p, 0, none⟩)] w fun e w' => ∃ x : Nat, (x = 80 ∨ x = 81) ∧ (∃ a c, e = .returned (.tuple #[.slice a 0 c, .int .i64 (x : Int)])) ∧ Fr [] w w' := by
  subst hfin
  have hle : fAt b ≤ b.length := by have := O.plc.hi; have := O.plc.hf; omega
  have htl : (b.take (fAt b)).length = fAt b := by rw [List.length_take]; omega
  have hsp : ∀ i, i < ips.length → nxN ips i + szA ips i + 4 ≤ (b.take (fAt b)).length := fun i hi => by
    have := nx_le (ips := ips) ips.length hi
    rw [O.sp.all] at this
    rw [htl]; exact this
  obtain ⟨X, hX⟩ := Classical.axiomOfChoice (fun i => look_ex (b.take (fAt b)) (nxN ips i) (szA ips i) (kA ips i))
  obtain ⟨Q, hQ⟩ := Classical.axiomOfChoice hX
  refine (tall_c w T (hb.take _) (by omega) hbi hn hsp (X := X) (Q := Q) (fun i _ => hQ i)).mono ?_
  rintro e w' ⟨v', rfl, co, f⟩
  obtain ⟨j, j1, j2⟩ := hurt
  have hj : X j ≠ 0 := fun e => by
    rcases hQ j with ⟨e2, _⟩ | ⟨e2, _⟩ | ⟨_, h2, _⟩
    · omega
    · omega
    · exact j2 h2
  obtain ⟨k, k1, k2, k3, k4⟩ := rng_bad (X := X) (Q := Q) (U := fun i => userL (kA ips i)) ips.length 0 [] (j := j) (Nat.zero_le _) (by omega) hj
  rw [k4] at co ⊢
  obtain ⟨cs, o, _⟩ := co
  obtain ⟨a, c, rfl, _⟩ := ownsRow_slice o
  refine ⟨X k, ?_, ⟨a, c, rfl⟩, f⟩
  have := (look_facts (hQ k) (hsp k (by omega))).2.2
  omega
set_option maxRecDepth 20000 in
set_option maxHeartbeats 3200000 in
theorem ttold_c (w : World) {v : Value} {ps : Ps} (h : RdK w v ps) (hl : ps.length ≤ 140737488355328) (b r i t : Int) (k : Int) (hk : -9223372036854775808 ≤ k ∧ k ≤ 9223372036854775807) (y : Nat) (hy : y < 256) :
    Calls Try.prog 3 #[v, .agg #[.int .i64 b, .int .i64 r, .int .i64 i, .int .i64 t], .int .i64 k, .int .u8 (y : Int)] w fun e w' => e = .returned (.bool true) ∧ Fr [] w w' := by
  have HK := hid h
  obtain ⟨a, c, rfl, hnc, _⟩ := h
  generalize hnn : ps.length = n at *
  have HN := hid hnn
  clear hnn
  obtain ⟨W0, hW0⟩ : ∃ W0, W0 = w.alloc (.cells #[.int .i64 b, .int .i64 r, .int .i64 i, .int .i64 t] 24) := ⟨_, rfl⟩
  have F0 : Hid (Fr [] w W0) := hid (by rw [hW0]; exact (Fr.refl _ _).alloc _)
  have B0 : Hid (W0.heap[w.heap.size]? = some (.cells #[.int .i64 b, .int .i64 r, .int .i64 i, .int .i64 t] 24 (0, 0))) := hid (by rw [hW0]; exact blk_new _ _)
  have PLC : Hid (∀ W, Fr [] W0 W → W.cell? ⟨w.heap.size, 0, none⟩ = some (.int .i64 b) ∧ W.cell? ⟨w.heap.size, 1, none⟩ = some (.int .i64 r) ∧ W.cell? ⟨w.heap.size, 2, none⟩ = some (.int .i64 i) ∧ W.cell? ⟨w.heap.size, 3, none⟩ = some (.int .i64 t)) := hid (fun W f => by
    have k := f.at B0.out (by simp)
    exact ⟨by rw [blk_cell k]; rfl, by rw [blk_cell k]; rfl, by rw [blk_cell k]; rfl, by rw [blk_cell k]; rfl⟩)
  have KN := hid (known8_c W0)
  go_enter Try.func3, Try.ntmps3
  go_wp2_with fail
  rw [← hW0]
  clear hW0
  refine KN.out.mono ?_
  rintro e w1 ⟨rfl, f1⟩
  have F1 := hid f1
  have FC := hid (few8_c w1 ((HK.out.fr F0.out).fr f1) (by rw [HN.out]; exact hl))
  clear f1 KN
  go_wp2_with fail
  refine FC.out.mono ?_
  rintro e w2 ⟨hq, f2⟩
  have F2 := hid (F1.out.trans f2)
  clear f2 FC
  rcases hq with rfl | ⟨rfl, hfew⟩
  · go_wp2
    go_ret
    exact ⟨rfl, F0.out.trans F2.out⟩
  have LM := hid (few_lim hfew)
  have hn60 : n ≤ 60 := by rw [← HN.out]; exact hfew.n
  clear hfew
  by_cases hy0 : y = 0
  · subst hy0
    go_wp2
    go_ret
    exact ⟨rfl, F0.out.trans F2.out⟩
  have hy1 : ((y : Int) == 0) = false := by rw [beq_eq_false_iff_ne]; omega
  obtain ⟨p0, p1, p2, p3⟩ := PLC.out w2 F2.out
  obtain ⟨x, X, hT⟩ := tbr_ex b r i t ps
  have HT := hid hT
  have TB := hid (tbuild_own w2 ((HK.out.fr F0.out).fr F2.out) LM.out hT)
  have BX := hid (hT.by HK.out.by)
  clear hT
  go_wp2_with fail
  refine TB.out.mono ?_
  rintro e w3 ⟨v3, rfl, o3, f3⟩
  have O3 := hid o3
  have F3 := hid (F2.out.trans f3)
  have S2 := hid (Nat.le_trans F0.out.size F2.out.size)
  obtain ⟨a3, c3, h3, _⟩ := ownsRow_slice o3
  subst h3
  clear o3 f3 TB p0 p1 p2 p3
  by_cases hx : x = 0
  rotate_left
  · have hx1 : ((x : Int) == 0) = false := by rw [beq_eq_false_iff_ne]; omega
    go_wp2
    go_ret
    exact ⟨rfl, F0.out.trans F3.out⟩
  subst hx
  by_cases hk0 : k < 0
  · go_wp2
    go_ret
    exact ⟨rfl, F0.out.trans F3.out⟩
  obtain ⟨XL, hXL⟩ : ∃ XL, XL = X.length := ⟨_, rfl⟩
  have HXL := hid hXL
  rw [← hXL] at O3 ⊢
  clear hXL
  by_cases hk1 : (XL : Int) ≤ k
  · go_wp2
    go_ret
    exact ⟨rfl, F0.out.trans F3.out⟩
  obtain ⟨q, rfl⟩ : ∃ q : Nat, k = (q : Int) := ⟨k.toNat, by omega⟩
  have hqX : q < X.length := by rw [← HXL.out]; omega
  rcases HT.out with ⟨e, _⟩ | ⟨e, _⟩ | ⟨e, _⟩ | ⟨_, hp, h0, hr, hX⟩
  · omega
  · omega
  · omega
  have hr0 := hp.r0
  have hr1 := hp.r1
  have hi1 := hp.i1
  have hby := HK.out.by
  obtain ⟨z, hz⟩ : ∃ z, X[q]? = some z := ⟨_, List.getElem?_eq_getElem hqX⟩
  have hz256 : z < 256 := BX.out _ (List.mem_of_getElem? hz)
  have hxr := u8_xor_nat z y hz256 hy
  have hq256 : z ^^^ y < 256 := Nat.xor_lt_two_pow (n := 8) hz256 hy
  have hqne : X[q]? ≠ some (z ^^^ y) := by rw [hz]; intro e; exact xor_ne8 hy0 (Option.some.inj e).symm
  have TO := tbl_open (r := r.toNat) (most := b.toNat) (bits := i.toNat) LM.out hr hby h0 (by omega)
  have top := TO.op
  have tlen := TO.len
  have tdat := TO.dat
  rw [← hX] at top tlen tdat
  have TLD : Hid (∀ ips' r', Opn (X.set q (z ^^^ y)) ips' r' → ips' = idxF r.toNat 0 (chs b.toNat ps) ∧ fAt (X.set q (z ^^^ y)) = fAt X ∧ ∃ i, i < (idxF r.toNat 0 (chs b.toNat ps)).length ∧ ¬ SumAt ((X.set q (z ^^^ y)).take (fAt X)) (nxN (idxF r.toNat 0 (chs b.toNat ps)) i) (szA (idxF r.toNat 0 (chs b.toNat ps)) i)) := hid (fun ips' r' O' => told BX.out tlen top (fun j hj => by
    have hf := chs_flat b.toNat ps
    rw [idxF_len] at hj
    have hD := LM.out.dat r.toNat b.toNat
    rw [tdat]
    exact (idx_look (by rw [hf.1]; exact hby) (by omega) (List.getElem?_eq_getElem hj)).1) hqX hq256 hqne O')
  have BIX : Hid (ByP (idxF r.toNat 0 (chs b.toNat ps)) ∧ (idxF r.toNat 0 (chs b.toNat ps)).length ≤ 1000000000) := hid (by
    have hf := chs_flat b.toNat ps
    have hI := LM.out.idx hr r.toNat b.toNat
    exact ⟨idx_by _ _ (by rw [hf.1]; exact hby) hf.2, by omega⟩)
  rcases O3.out.2 with ⟨_, h0'⟩ | ⟨g1, c1', cur1, hv1, hbg1, _, hc1', _⟩
  · omega
  simp only [Value.slice.injEq, true_and] at hv1
  obtain ⟨rfl, rfl⟩ := hv1
  have S1 := O3.out.stored q (.int .u8 ((z ^^^ y : Nat) : Int))
  have hset : (bv X).set q (.int .u8 ((z ^^^ y : Nat) : Int)) = bv (X.set q (z ^^^ y)) := by unfold bv; rw [List.map_set]
  rw [hset] at S1
  have hcp := O3.out.cells rfl q _ (bv_at hz)
  rw [Addr.add_lit, Nat.zero_add] at hcp
  have hzp := O3.out.frozenAt q
  have F4 := hid ((F0.out.trans F3.out).grown S1.2 fun j hj => .inr (by cases hj; have := S2.out; omega))
  have HCT : Hid ((X.set q (z ^^^ y)).length = XL) := hid (by rw [List.length_set]; exact HXL.out.symm)
  have P4 : Hid (Rd (w3.setCell ⟨g1, q, none⟩ (.int .u8 ((z ^^^ y : Nat) : Int))) (.slice (some ⟨g1, 0, none⟩) (X.set q (z ^^^ y)).length c3) (bv (X.set q (z ^^^ y)))) := hid (by rw [HCT.out]; exact Rd.ownN S1.1 (by rw [HCT.out]))
  have HBT := hid (BX.out.set8 hq256 q)
  have hLT : (X.set q (z ^^^ y)).length ≤ 1000000000 := by rw [List.length_set]; exact tlen
  clear S1 hset hz hqne top tlen tdat TO hp h0 hr hby hr0 hr1 hi1 hX hbg1 HT O3
  generalize X.set q (z ^^^ y) = X' at *
  generalize z ^^^ y = zy at *
  obtain ⟨w4, hw4⟩ : ∃ w4, w4 = w3.setCell ⟨g1, q, none⟩ (.int .u8 (zy : Int)) := ⟨_, rfl⟩
  rw [← hw4] at F4 P4
  rcases opn_or X' with ⟨ips', r', O'⟩ | ⟨x, hno⟩
  · obtain ⟨e1, e2, e3⟩ := TLD.out ips' r' O'
    have OP := hid (open_ok w4 P4.out HBT.out hLT O')
    rw [HCT.out] at OP
    have HH := hid e3
    have HE := hid e2
    have HO := hid O'
    subst e1
    clear e2 e3 O' TLD
    go_upto_region 9 with fail
    rw [← hw4]
    clear hw4 hcp hzp
    go_wp2_with (go_at_call 10; refine OP.out.mono ?_; rintro e w5 ⟨p, da, dc, fa, fc, G, rfl, tab, f5⟩; have AH := hid (all_hurt w5 HBT.out hLT HO.out HE.out tab BIX.out.1 BIX.out.2 HH.out); have F5 := hid (F4.out.trans f5); clear tab f5)
    refine AH.out.mono ?_
    rintro e w6 ⟨x, hx, ⟨a6, c6, rfl⟩, f6⟩
    have F6 := hid (F5.out.trans f6)
    clear f6 AH
    rcases hx with rfl | rfl
    all_goals
      go_wp2
      go_ret
      exact ⟨rfl, F6.out⟩
  · have OP := hid (open_no w4 P4.out HBT.out hLT hno)
    rw [HCT.out] at OP
    have hx := noopn_x hno
    clear hno TLD
    go_upto_region 9 with fail
    rw [← hw4]
    clear hw4 hcp hzp
    rcases hx with rfl | rfl
    all_goals
      go_wp2_with (go_at_call 10; refine OP.out.mono ?_; rintro e w5 ⟨rfl, f5⟩; have F5 := hid (F4.out.trans f5); clear f5)
      go_ret
      exact ⟨rfl, F5.out⟩
end Go.Proofs.Ytobdegmlijnogaa
