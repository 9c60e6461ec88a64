/-
  Tables without the program: how bytes are opened, and that what was laid down is opened.
-/
import Derived.Test.YtnnookkcnmgbfaaGreatJ04
import Derived.Test.YtnnookkcnmgbfaaGreatJ02
import Derived.Test.YtnnookkcnmgbfaaGreatJ01
import Derived.Lib.SlBytesConst
namespace Go.Proofs.YtnnookkcnmgbfaaGreat

def wn (b : List Nat) (t n : Nat) : List Nat := (b.drop t).take n
def n8 (b : List Nat) (t : Nat) : Nat := unf (wn b t 8)
def SumAt (b : List Nat) (t n : Nat) : Prop := unf (wn b (t + n) 4) = crc (wn b t n)
structure Foot (b : List Nat) : Prop where
  len : 44 ≤ b.length
  mag : b.drop (b.length - 8) = magicL
def fAt (b : List Nat) : Nat := n8 b (b.length - 44)
def fSz (b : List Nat) : Nat := n8 b (b.length - 36)
def iAt (b : List Nat) : Nat := n8 b (b.length - 28)
def iSz (b : List Nat) : Nat := n8 b (b.length - 20)
structure Plc (b : List Nat) : Prop where
  hi : iAt b + iSz b + 4 = b.length - 44
  hf : fAt b + fSz b + 4 = iAt b
/-- The two numbers of an entry of the index. -/
def placeL (v : List Nat) : Option (Nat × Nat) :=
  if (takeL v).2.2 = 0 ∧ (takeL (v.drop (takeL v).2.1)).2.2 = 0 ∧ (takeL v).2.1 + (takeL (v.drop (takeL v).2.1)).2.1 = v.length then some ((takeL v).1, (takeL (v.drop (takeL v).2.1)).1) else none
def szA (ips : Ps) (i : Nat) : Nat := ((placeL (vA ips i)).getD (0, 0)).2
def nxN (ips : Ps) : Nat → Nat
  | 0 => 0
  | i + 1 => nxN ips i + szA ips i + 4
structure OkSp (fin : Nat) (ips : Ps) (i : Nat) : Prop where
  pl : placeL (vA ips i) = some (nxN ips i, szA ips i)
  le : szA ips i ≤ fin
structure Spans (fin : Nat) (ips : Ps) : Prop where
  ne : ips ≠ []
  ok : ∀ i, i < ips.length → OkSp fin ips i
  all : nxN ips ips.length = fin
structure Opn (b : List Nat) (ips : Ps) (r : Nat) : Prop where
  foot : Foot b
  sum : SumAt b (b.length - 44) 32
  plc : Plc b
  isum : SumAt b (iAt b) (iSz b)
  fsum : SumAt b (fAt b) (fSz b)
  bl : Blk (wn b (iAt b) (iSz b)) ips r
  sp : Spans (fAt b) ips
/-- Why bytes aren't opened. -/
def NoOpn (b : List Nat) (x : Nat) : Prop :=
  (x = 80 ∧ ¬ Foot b) ∨ (x = 81 ∧ Foot b ∧ ¬ SumAt b (b.length - 44) 32) ∨ (x = 80 ∧ Foot b ∧ SumAt b (b.length - 44) 32 ∧ ¬ Plc b) ∨
  (x = 81 ∧ Foot b ∧ SumAt b (b.length - 44) 32 ∧ Plc b ∧ ¬ (SumAt b (iAt b) (iSz b) ∧ SumAt b (fAt b) (fSz b))) ∨
  (x = 80 ∧ Foot b ∧ SumAt b (b.length - 44) 32 ∧ Plc b ∧ SumAt b (iAt b) (iSz b) ∧ SumAt b (fAt b) (fSz b) ∧ ∀ ips r, Blk (wn b (iAt b) (iSz b)) ips r → ¬ Spans (fAt b) ips)

theorem wn_mid (p m q : List Nat) {t n : Nat} (ht : t = p.length) (hn : n = m.length) : wn (p ++ (m ++ q)) t n = m := by
  subst ht hn; unfold wn; rw [List.drop_left, List.take_left]
theorem wn_by {b : List Nat} (h : By b) (t n : Nat) : By (wn b t n) := (h.drop t).take n
theorem wn_len {b : List Nat} {t n : Nat} (h : t + n ≤ b.length) : (wn b t n).length = n := by unfold wn; rw [List.length_take, List.length_drop]; omega
theorem n8_mid (p q : List Nat) {t n : Nat} (ht : t = p.length) (hn : n < 18446744073709551616) : n8 (p ++ (fixL n 8 ++ q)) t = n := by
  unfold n8; rw [wn_mid p _ q ht (fixL_len _ _).symm, unf_fixL]; exact Nat.mod_eq_of_lt hn
theorem sum_mid (p m q : List Nat) (hm : By m) {t n : Nat} (ht : t = p.length) (hn : n = m.length) : SumAt (p ++ (m ++ (fixL (crc m) 4 ++ q))) t n := by
  unfold SumAt
  rw [wn_mid p m _ ht hn, ← List.append_assoc p m, wn_mid (p ++ m) (fixL (crc m) 4) q (by rw [List.length_append]; omega) (fixL_len _ _).symm, unf_fixL]
  exact Nat.mod_eq_of_lt (crc_lt hm)
theorem footL_len (a b c d : Nat) : (footL a b c d).length = 44 := by unfold footL; rw [List.length_append, List.length_append, numsL_len, fixL_len]; rfl
theorem layL_len (d f x : List Nat) : (layL d f x).length = d.length + (f.length + 4) + (x.length + 4) + 44 := by
  unfold layL; simp only [List.length_append, sealL_len, footL_len]; omega
theorem lay_split (d f x : List Nat) : layL d f x = (d ++ (sealL f ++ sealL x)) ++ footL d.length f.length (d.length + f.length + 4) x.length := by
  unfold layL; simp only [List.append_assoc]
/-- What was laid down so is opened so. -/
structure Laid (d f x b : List Nat) : Prop where
  foot : Foot b
  sum : SumAt b (b.length - 44) 32
  plc : Plc b
  isum : SumAt b (iAt b) (iSz b)
  fsum : SumAt b (fAt b) (fSz b)
  fa : fAt b = d.length
  idx : wn b (iAt b) (iSz b) = x
  flt : wn b (fAt b) (fSz b) = f
  dat : b.take (fAt b) = d
theorem lay_open {d f x : List Nat} (_hd : By d) (hf : By f) (hx : By x) (ld : d.length ≤ 1000000000) (lf : f.length ≤ 1000000000) (lx : x.length ≤ 1000000000) : Laid d f x (layL d f x) := by
  have hl := layL_len d f x
  have e := lay_split d f x
  obtain ⟨p, hp⟩ : ∃ p, p = d ++ (sealL f ++ sealL x) := ⟨_, rfl⟩
  have pl : p.length = (layL d f x).length - 44 := by rw [hl, hp]; simp only [List.length_append, sealL_len]; omega
  rw [← hp] at e
  have f1 : fAt (layL d f x) = d.length := by
    unfold fAt; rw [← pl, e]; unfold footL numsL; rw [List.append_assoc]; exact n8_mid p _ rfl (by omega)
  have f2 : fSz (layL d f x) = f.length := by
    unfold fSz
    rw [show (layL d f x).length - 36 = (p ++ fixL d.length 8).length from by rw [List.length_append, fixL_len]; omega, e]
    unfold footL numsL
    simp only [List.append_assoc]
    rw [← List.append_assoc p]
    exact n8_mid _ _ rfl (by omega)
  have f3 : iAt (layL d f x) = d.length + f.length + 4 := by
    unfold iAt
    rw [show (layL d f x).length - 28 = (p ++ fixL d.length 8 ++ fixL f.length 8).length from by simp only [List.length_append, fixL_len]; omega, e]
    unfold footL numsL
    simp only [List.append_assoc]
    rw [← List.append_assoc p, ← List.append_assoc (p ++ _)]
    exact n8_mid _ _ (by simp only [List.length_append]; omega) (by omega)
  have f4 : iSz (layL d f x) = x.length := by
    unfold iSz
    rw [show (layL d f x).length - 20 = (p ++ fixL d.length 8 ++ fixL f.length 8 ++ fixL (d.length + f.length + 4) 8).length from by simp only [List.length_append, fixL_len]; omega, e]
    unfold footL numsL
    simp only [List.append_assoc]
    rw [← List.append_assoc p, ← List.append_assoc (p ++ _), ← List.append_assoc (p ++ _ ++ _)]
    exact n8_mid _ _ (by simp only [List.length_append]; omega) (by omega)
  have e2 : layL d f x = d ++ (f ++ (fixL (crc f) 4 ++ (sealL x ++ footL d.length f.length (d.length + f.length + 4) x.length))) := by
    unfold layL; rw [show sealL f = f ++ fixL (crc f) 4 from rfl, List.append_assoc]
  have e3 : layL d f x = (d ++ (f ++ fixL (crc f) 4)) ++ (x ++ (fixL (crc x) 4 ++ footL d.length f.length (d.length + f.length + 4) x.length)) := by
    unfold layL; unfold sealL; simp only [List.append_assoc]
  have l3 : iAt (layL d f x) = (d ++ (f ++ fixL (crc f) 4)).length := by rw [f3]; simp only [List.length_append, fixL_len]; omega
  refine ⟨⟨by omega, ?_⟩, ?_, ⟨by omega, by omega⟩, ?_, ?_, f1, ?_, ?_, ?_⟩
  · rw [e]
    unfold footL
    rw [← List.append_assoc, ← List.append_assoc]
    refine List.drop_left' ?_
    have : (p ++ (footL d.length f.length (d.length + f.length + 4) x.length)).length = p.length + 44 := by rw [List.length_append, footL_len]
    unfold footL at this
    rw [← List.append_assoc, ← List.append_assoc] at this
    rw [this]
    simp only [List.length_append, numsL_len, fixL_len]; omega
  · rw [← pl, e]
    unfold footL
    exact sum_mid p _ _ (numsL_by _ _ _ _) rfl (numsL_len _ _ _ _).symm
  · rw [l3, f4, e3]; exact sum_mid _ x _ hx rfl rfl
  · rw [f1, f2, e2]; exact sum_mid d f _ hf rfl rfl
  · rw [l3, f4, e3]; exact wn_mid _ x _ rfl rfl
  · rw [f1, f2, e2]; exact wn_mid d f _ rfl rfl
  · rw [f1, e2]; exact List.take_left

theorem placeL_put {a n : Nat} (ha : a < 18446744073709551616) (hn : n < 18446744073709551616) : placeL (putL a ++ putL n) = some (a, n) := by
  have h1 := takeL_put ha (putL n)
  have h2 := takeL_put hn []
  rw [List.append_nil] at h2
  unfold placeL
  rw [h1]
  dsimp only
  rw [List.drop_left, h2]
  dsimp only
  rw [if_pos ⟨rfl, rfl, by rw [List.length_append]⟩]
theorem dat_take {r : Nat} {D : List Ps} {i : Nat} {c : Ps} (h : D[i]? = some c) : datL r D = datL r (D.take i) ++ (blk r c ++ (fixL (crc (blk r c)) 4 ++ datL r (D.drop (i + 1)))) := by
  have e : D = D.take i ++ (c :: D.drop (i + 1)) := by
    have hl := (List.getElem?_eq_some_iff.1 h).1
    rw [List.getElem?_eq_getElem hl, Option.some.injEq] at h
    rw [← h, ← List.drop_eq_getElem_cons hl, List.take_append_drop]
  have e2 : datL r D = datL r (D.take i ++ (c :: D.drop (i + 1))) := by rw [← e]
  rw [e2, datL_append, datL_cons, show sealL (blk r c) = blk r c ++ fixL (crc (blk r c)) 4 from rfl, List.append_assoc]
theorem dat_len_take {r : Nat} {D : List Ps} {i : Nat} {c : Ps} (h : D[i]? = some c) : (datL r (D.take (i + 1))).length = (datL r (D.take i)).length + (blk r c).length + 4 := by
  rw [List.take_add_one, h, Option.toList_some, datL_snoc, List.length_append, sealL_len]; omega
theorem dat_le {r : Nat} {D : List Ps} {i : Nat} {c : Ps} (h : D[i]? = some c) : (datL r (D.take i)).length + (blk r c).length + 4 ≤ (datL r D).length := by
  rw [dat_take h]; simp only [List.length_append, fixL_len]; omega
theorem idx_val {r : Nat} {D : List Ps} (hl : (datL r D).length < 18446744073709551616) {i : Nat} {c : Ps} (h : D[i]? = some c) : placeL (vA (idxF r 0 D) i) = some ((datL r (D.take i)).length, (blk r c).length) ∧ kA (idxF r 0 D) i = lastK c := by
  have h1 := idxF_at r D 0 i c h
  have h2 := dat_le (r := r) h
  obtain ⟨k1, k2⟩ := kA_at h1
  rw [k1, k2]
  dsimp only
  rw [Nat.zero_add, placeL_put (by omega) (by omega)]
  exact ⟨rfl, rfl⟩
theorem idx_sz {r : Nat} {D : List Ps} (hl : (datL r D).length < 18446744073709551616) {i : Nat} {c : Ps} (h : D[i]? = some c) : szA (idxF r 0 D) i = (blk r c).length := by
  unfold szA; rw [(idx_val hl h).1]; rfl
theorem idx_nx {r : Nat} {D : List Ps} (hl : (datL r D).length < 18446744073709551616) : ∀ i, i ≤ D.length → nxN (idxF r 0 D) i = (datL r (D.take i)).length
  | 0, _ => rfl
  | i + 1, h => by
    have hi : D[i]? = some D[i] := List.getElem?_eq_getElem (by omega)
    rw [nxN, idx_nx hl i (by omega), idx_sz hl hi, dat_len_take hi]
theorem idx_spans {r : Nat} {D : List Ps} (hne : D ≠ []) (hl : (datL r D).length < 18446744073709551616) : Spans (datL r D).length (idxF r 0 D) := by
  refine ⟨fun e => hne (List.eq_nil_of_length_eq_zero (by rw [← idxF_len r D 0, e]; rfl)), fun i hi => ?_, ?_⟩
  · rw [idxF_len] at hi
    have h : D[i]? = some D[i] := List.getElem?_eq_getElem hi
    have := dat_le (r := r) h
    exact ⟨by rw [(idx_val hl h).1, idx_nx hl i (by omega), idx_sz hl h], by rw [idx_sz hl h]; omega⟩
  · rw [idxF_len, idx_nx hl _ (Nat.le_refl _), List.take_length]
/-- A data block as the index has it. -/
theorem idx_look {r : Nat} {D : List Ps} (hby : ByP D.flatten) (hl : (datL r D).length < 18446744073709551616) {i : Nat} {c : Ps} (h : D[i]? = some c) :
    SumAt (datL r D) (nxN (idxF r 0 D) i) (szA (idxF r 0 D) i) ∧ wn (datL r D) (nxN (idxF r 0 D) i) (szA (idxF r 0 D) i) = blk r c := by
  have hi := (List.getElem?_eq_some_iff.1 h).1
  rw [idx_nx hl i (by omega), idx_sz hl h, dat_take h]
  exact ⟨sum_mid _ _ _ (blk_by (chunk_by hby (List.mem_of_getElem? h)) r) rfl rfl, wn_mid _ _ _ rfl rfl⟩

/-- Not too much. -/
structure Lim (ps : Ps) : Prop where
  n : ps.length ≤ 1000000
  t : tot ps ps.length ≤ 100000000
def pl (p : List Nat × List Nat) : Nat := p.1.length + p.2.length
theorem tot_sum (ps : Ps) : ∀ i, i ≤ ps.length → tot ps i = ((ps.take i).map pl).sum
  | 0, _ => by simp [tot]
  | i + 1, h => by
    rw [tot, tot_sum ps i (by omega), List.take_add_one, ps_at (by omega), Option.toList_some, List.map_append, List.sum_append]
    simp [pl]; omega
theorem tot_all (ps : Ps) : tot ps ps.length = (ps.map pl).sum := by rw [tot_sum ps _ (Nat.le_refl _), List.take_length]
theorem blk_len_le {ps : Ps} {r : Nat} (h : tot ps ps.length ≤ 1000000000) : (bod r ps ps.length).length ≤ 30 * ps.length + tot ps ps.length ∧ (blk r ps).length ≤ 34 * ps.length + tot ps ps.length + 4 := by
  have h1 := bod_tot (ps := ps) (r := r) (fun i => by
    by_cases hi : i < ps.length
    · have := tot_at ps hi; omega
    · rw [(kA_out (by omega)).1, (kA_out (by omega)).2]; simp) ps.length
  have h2 := plc_le r ps ps.length
  unfold blk
  simp only [List.length_append, fixL_len]
  omega
theorem dat_bound {r : Nat} : ∀ (D : List Ps), (∀ c ∈ D, c ≠ []) → (D.flatten.map pl).sum ≤ 1000000000 → (datL r D).length ≤ 42 * D.flatten.length + (D.flatten.map pl).sum ∧ D.length ≤ D.flatten.length
  | [], _, _ => by simp [datL]
  | c :: D, h, hs => by
    rw [List.flatten_cons, List.map_append, List.sum_append] at hs
    have ih := dat_bound (r := r) D (fun c hc => h c (by simp [hc])) (by omega)
    have hc := List.length_pos_iff.2 (h c (by simp))
    have hb := (blk_len_le (ps := c) (r := r) (by rw [tot_all]; omega)).2
    rw [tot_all] at hb
    rw [datL_cons, List.length_append, sealL_len, List.flatten_cons, List.map_append, List.sum_append, List.length_append, List.length_cons]
    omega
theorem Lim.dat {ps : Ps} (h : Lim ps) (r most : Nat) : (datL r (chs most ps)).length ≤ 142000000 ∧ (chs most ps).length ≤ ps.length := by
  obtain ⟨h1, h2⟩ := h
  have hf := chs_flat most ps
  have := dat_bound (r := r) (chs most ps) hf.2 (by rw [hf.1, ← tot_all]; omega)
  rw [hf.1, ← tot_all] at this
  omega
theorem sum_le_mul {α : Type} (f : α → Nat) (k : Nat) : ∀ (l : List α), (∀ x ∈ l, f x ≤ k) → (l.map f).sum ≤ k * l.length
  | [], _ => by simp
  | x :: l, h => by
    have h1 := h x (by simp)
    have h2 := sum_le_mul f k l (fun y hy => h y (by simp [hy]))
    rw [List.map_cons, List.sum_cons, List.length_cons, Nat.mul_add]; omega
theorem Lim.idx {ps : Ps} (h : Lim ps) (hr : Rises ps) (r most : Nat) : (idxF r 0 (chs most ps)).length ≤ 1000000 ∧ tot (idxF r 0 (chs most ps)) (idxF r 0 (chs most ps)).length ≤ 156000000 := by
  have hf := chs_flat most ps
  have hd := h.dat r most
  have hn := h.n
  have hl := idxF_len r (chs most ps) 0
  have hri := idx_rises (r := r) (t := 0) hf.2 (by rw [hf.1]; exact hr)
  refine ⟨by omega, ?_⟩
  rw [tot_all]
  have := sum_le_mul pl 156 (idxF r 0 (chs most ps)) (fun p hp => by
    obtain ⟨i, hi⟩ := List.getElem?_of_mem hp
    have hil := (List.getElem?_eq_some_iff.1 hi).1
    have k1 := kA_len hri i
    rw [(kA_at hi).1] at k1
    have hc : (chs most ps)[i]? = some (chs most ps)[i] := List.getElem?_eq_getElem (by omega)
    have hv := idxF_at r _ 0 i _ hc
    rw [hi, Option.some.injEq] at hv
    have hle := dat_le (r := r) hc
    have p1 := putL_len10 (n := 0 + (datL r ((chs most ps).take i)).length) (by omega)
    have p2 := putL_len10 (n := (blk r (chs most ps)[i]).length) (by omega)
    unfold pl
    have e2 : p.2 = putL (0 + (datL r ((chs most ps).take i)).length) ++ putL (blk r (chs most ps)[i]).length := by rw [hv]
    rw [e2, List.length_append]; omega)
  omega
theorem sub_sum {a b : List Nat} (h : a.Sublist b) : a.sum ≤ b.sum := by
  induction h with
  | slnil => simp
  | cons x _ ih => rw [List.sum_cons]; omega
  | cons_cons x _ ih => rw [List.sum_cons, List.sum_cons]; omega
theorem Lim.chunk {ps : Ps} (h : Lim ps) {most : Nat} {c : Ps} (hc : c ∈ chs most ps) : Lim c := by
  have hf := chs_flat most ps
  have hs := List.sublist_flatten_of_mem hc
  rw [hf.1] at hs
  refine ⟨Nat.le_trans hs.length_le h.n, ?_⟩
  rw [tot_all]
  refine Nat.le_trans ?_ h.t
  rw [tot_all]
  exact sub_sum (hs.map _)
end Go.Proofs.YtnnookkcnmgbfaaGreat
namespace Go.Proofs.YtnnookkcnmgbfaaGreat
open Go.ChangeShapes Go.WideShapes Go.ChangeAt Go.RowKit

theorem Rd.mid {w : World} {b off c : Nat} {ns : List Nat} (h : Rd w (.slice (some ⟨b, off, none⟩) ns.length c) (bv ns)) {i n : Nat} (hq : i + n ≤ ns.length) : Rd w (.slice (some ⟨b, off + i, none⟩) n (c - i)) (bv ((ns.drop i).take n)) := by
  rcases h with ⟨h, _⟩ | ⟨a, c', h, h4, h5⟩
  · cases h
  · simp only [Value.slice.injEq, Option.some.injEq] at h
    obtain ⟨rfl, _, rfl⟩ := h
    have hl : ((ns.drop i).take n).length = n := by rw [List.length_take, List.length_drop]; omega
    refine .inr ⟨_, _, by rw [bv_len, hl], by rw [bv_len] at h4 ⊢; rw [hl]; omega, fun j u hj => ?_⟩
    rw [bv_take, List.getElem?_take] at hj
    split at hj
    · rw [bv_drop, List.getElem?_drop] at hj
      have := h5 _ _ hj
      rw [Addr.add_lit] at this ⊢
      rw [Nat.add_assoc]; exact this
    · cases hj
theorem Rd.none_ {w : World} {a : Addr} {n c : Nat} {ns : List Nat} (h : ns.length = 0) (hn : n = 0) : Rd w (.slice (some a) n c) (bv ns) := by
  have : ns = [] := List.eq_nil_of_length_eq_zero h
  subst this
  subst hn
  exact .inr ⟨a, c, rfl, Nat.zero_le _, fun j u hj => by simp [bv] at hj⟩
end Go.Proofs.YtnnookkcnmgbfaaGreat
namespace Go.Proofs.YtnnookkcnmgbfaaGreat
open Go.ChangeShapes Go.WideShapes Go.ChangeAt Go.RowKit

theorem infoR : (Tryz.prog.info? 22).map (fun i => (i.zero, i.size, i.bytes)) = some (some (.slice none 0 0), 1, 24) := by kernel_rfl

/-- A list of lists of bytes that can be read. -/
def RdL (w : World) (v : Value) (rs : List (List Nat)) : Prop :=
  ∃ a c, v = .slice a rs.length c ∧ (0 < rs.length → ∃ b off, a = some ⟨b, off, none⟩ ∧ ∀ (j : Nat) (r : List Nat), rs[j]? = some r → ∃ a' c', w.cell? ⟨b, off + j, none⟩ = some (.slice a' r.length c') ∧ Rd w (.slice a' r.length c') (bv r) ∧ By r ∧ r.length ≤ 140737488355328)
theorem RdL.fr {w w' : World} {v : Value} {rs : List (List Nat)} (h : RdL w v rs) (f : Fr [] w w') : RdL w' v rs := by
  obtain ⟨a, c, h1, h2⟩ := h
  refine ⟨a, c, h1, fun h0 => ?_⟩
  obtain ⟨b, off, h3, h4⟩ := h2 h0
  refine ⟨b, off, h3, fun j r hj => ?_⟩
  obtain ⟨a', c', k1, k2, k3⟩ := h4 j r hj
  refine ⟨a', c', ?_, k2.fr f, k3⟩
  rw [World.cell?_of_block (w := w) (f.block _ (World.block_lt_of_cell? w _ k1) (by simp))]; exact k1
theorem RdL.by {w : World} {v : Value} {rs : List (List Nat)} (h : RdL w v rs) : ∀ r ∈ rs, By r := fun r hr => by
  obtain ⟨a, c, h1, h2⟩ := h
  obtain ⟨b, off, h3, h4⟩ := h2 (List.length_pos_of_mem hr)
  obtain ⟨j, hj⟩ := List.getElem?_of_mem hr
  obtain ⟨a', c', k1, k2, k3, _⟩ := h4 j r hj
  exact k3
theorem RdL.front {w : World} {a : Option Addr} {n c : Nat} {rs : List (List Nat)} (h : RdL w (.slice a n c) rs) {k : Nat} (hk : k ≤ rs.length) : RdL w (.slice a k c) (rs.take k) := by
  obtain ⟨a', c', h1, h2⟩ := h
  simp only [Value.slice.injEq] at h1
  obtain ⟨rfl, rfl, rfl⟩ := h1
  refine ⟨a, c, by rw [List.length_take, Nat.min_eq_left hk], fun h0 => ?_⟩
  rw [List.length_take] at h0
  obtain ⟨b, off, h3, h4⟩ := h2 (by omega)
  refine ⟨b, off, h3, fun j r hj => h4 j r ?_⟩
  rw [List.getElem?_take] at hj
  split at hj
  · exact hj
  · cases hj

/-- The elements of a list of the call's own: each can be read, and lies in a block of its own from B on. -/
def Lst (w : World) (B : Nat) (qs : List (Option Nat)) (rs : List (List Nat)) (cs : List Value) : Prop :=
  cs.length = rs.length ∧ ∀ (j : Nat) (r : List Nat), rs[j]? = some r → ∃ u, cs[j]? = some u ∧ Rd w u (bv r) ∧ By r ∧ r.length ≤ 140737488355328 ∧ ∀ k, u.ownBlock = some k → B ≤ k ∧ k < w.heap.size ∧ ∀ q ∈ qs, q ≠ some k
theorem Lst.nil (w : World) (B : Nat) (qs : List (Option Nat)) : Lst w B qs [] [] := ⟨rfl, fun j r h => by simp at h⟩
theorem Rd.step {w w' : World} {v : Value} {xs : List Value} (h : Rd w v xs) (hb : ∀ k, v.ownBlock = some k → w'.heap[k]? = w.heap[k]?) : Rd w' v xs := by
  rcases h with h | ⟨a, c, rfl, h4, h5⟩
  · exact .inl h
  · refine .inr ⟨a, c, rfl, h4, fun j u hj => ?_⟩
    rw [World.cell?_of_block (w := w) (by rw [add_block]; exact hb _ rfl)]; exact h5 j u hj
/-- Blocks from B on stay but for those of qs; those of qs' are of qs, or new. -/
theorem Lst.step {w w' : World} {B : Nat} {qs qs' : List (Option Nat)} {rs : List (List Nat)} {cs : List Value} (h : Lst w B qs rs cs) (hs : w.heap.size ≤ w'.heap.size) (hf : ∀ k, B ≤ k → k < w.heap.size → (∀ q ∈ qs, q ≠ some k) → w'.heap[k]? = w.heap[k]?) (hq : ∀ q ∈ qs', q ∈ qs ∨ ∀ k, q = some k → w.heap.size ≤ k) : Lst w' B qs' rs cs := by
  refine ⟨h.1, fun j r hj => ?_⟩
  obtain ⟨u, h1, h2, h3, h3', h4⟩ := h.2 j r hj
  refine ⟨u, h1, h2.step fun k hk => hf k (h4 k hk).1 (h4 k hk).2.1 (h4 k hk).2.2, h3, h3', fun k hk => ⟨(h4 k hk).1, by have := (h4 k hk).2.1; omega, fun q hq' e => ?_⟩⟩
  rcases hq q hq' with x | x
  · exact (h4 k hk).2.2 q x e
  · have := x k e; have := (h4 k hk).2.1; omega
theorem Lst.snoc {w : World} {B : Nat} {qs : List (Option Nat)} {rs : List (List Nat)} {cs : List Value} (h : Lst w B qs rs cs) {u : Value} {r : List Nat} (h1 : Rd w u (bv r)) (h2 : By r) (h3 : r.length ≤ 140737488355328) (h4 : ∀ k, u.ownBlock = some k → B ≤ k ∧ k < w.heap.size ∧ ∀ q ∈ qs, q ≠ some k) : Lst w B qs (rs ++ [r]) (cs ++ [u]) := by
  refine ⟨by simp [h.1], fun j r' hj => ?_⟩
  by_cases hjl : j < rs.length
  · rw [List.getElem?_append_left hjl] at hj
    obtain ⟨u', k1, k2⟩ := h.2 j r' hj
    exact ⟨u', by rw [List.getElem?_append_left (by rw [h.1]; exact hjl)]; exact k1, k2⟩
  · have hje : j = rs.length := by
      rcases Nat.lt_or_ge j (rs.length + 1) with h' | h'
      · omega
      · rw [List.getElem?_eq_none (by simp; omega)] at hj; cases hj
    subst hje
    rw [List.getElem?_append_right (Nat.le_refl _), Nat.sub_self] at hj
    simp at hj
    subst hj
    exact ⟨u, by rw [List.getElem?_append_right (by rw [h.1]; exact Nat.le_refl _), h.1, Nat.sub_self]; rfl, h1, h2, h3, h4⟩
/-- A list of the call's own. -/
def OwnL (w : World) (B : Nat) (v : Value) (rs : List (List Nat)) : Prop := ∃ cs, w.ownsRow B 22 1 v rs.length cs ∧ Lst w B [v.ownBlock] rs cs
theorem OwnL.rd {w : World} {B : Nat} {v : Value} {rs : List (List Nat)} (h : OwnL w B v rs) : RdL w v rs := by
  obtain ⟨cs, o, l⟩ := h
  rcases o.2 with ⟨rfl, h0⟩ | ⟨g, cap, cur, rfl, _, h3, h4, h5⟩
  · have : rs = [] := List.eq_nil_of_length_eq_zero h0
    subst this
    exact ⟨none, 0, rfl, fun h => by simp at h⟩
  · refine ⟨_, cap, rfl, fun _ => ⟨g, 0, rfl, fun j r hj => ?_⟩⟩
    obtain ⟨u, k1, k2, k3, k4, _⟩ := l.2 j r hj
    have := o.cells rfl j u k1
    rw [Addr.add_lit] at this
    obtain ⟨a', c', e⟩ := k2.form
    rw [bv_len] at e
    subst e
    exact ⟨a', c', this, k2, k3, k4⟩
/-- Blocks from B on stay. -/
theorem OwnL.step {w w' : World} {B : Nat} {v : Value} {rs : List (List Nat)} (h : OwnL w B v rs) (hs : w.heap.size ≤ w'.heap.size) (hf : ∀ k, B ≤ k → k < w.heap.size → w'.heap[k]? = w.heap[k]?) : OwnL w' B v rs := by
  obtain ⟨cs, o, l⟩ := h
  exact ⟨cs, ownsRow_of_block o fun k hk => hf k (o.lt k hk).1 (o.lt k hk).2, l.step hs (fun k k1 k2 _ => hf k k1 k2) (fun q hq => .inl hq)⟩
theorem OwnL.fr {w w' : World} {B : Nat} {v : Value} {rs : List (List Nat)} (h : OwnL w B v rs) (f : Fr [] w w') : OwnL w' B v rs := h.step f.size fun k _ k2 => f.block k k2 (by simp)

/-- Rows of unlike elements don't share a block. -/
theorem own_types {w : World} {B B' s s' n n' : Nat} {e e' : TypeId} {v v' : Value} {xs ys : List Value} (h : w.ownsRow B e s v n xs) (h' : w.ownsRow B' e' s' v' n' ys) (hne : e ≠ e') : ∀ k, v.ownBlock = some k → v'.ownBlock ≠ some k := by
  intro k hk hk'
  rcases h.2 with ⟨rfl, _⟩ | ⟨g, cap, cur, rfl, _, h3, _⟩
  · simp [Value.ownBlock] at hk
  · rcases h'.2 with ⟨rfl, _⟩ | ⟨g', cap', cur', rfl, _, h3', _⟩
    · simp [Value.ownBlock] at hk'
    · simp [Value.ownBlock] at hk hk'
      subst hk; subst hk'
      rw [h3] at h3'
      simp at h3'
      exact hne h3'.2

/-- append(own, x) for a slice of bytes. -/
theorem wpList_append_row {w : World} {ops : Array Oper} {rest : List Oper} {o : Oper} {a : Act} {Q : Exit → Act → World → Prop} (hgd : o.guard = none) (s x : Operand)
    (ho : o.op = .call { callee := .builtin .append, args := #[s, x], argTypes := #[86, 86] }) (base : Nat) (hbase : base ≤ w.heap.size) (v : Value) (n : Nat) (xs : List Value) (hs : a.eval s = v) (hown : w.ownsRow base 22 1 v n xs) (G : Nat) (hx : a.eval x = .slice (some ⟨G, 0, none⟩) 1 1) {u : Value} {T : TypeId} (hG : w.heap[G]? = some (.cells #[u] T (0, 0)))
    (hu : u.oneCell' = true) (hl : n ≤ 100000000000)
    (h : ∀ v' w', w'.ownsRow base 22 1 v' (n + 1) (xs ++ [u]) → w.grownBy w' v.ownBlock → (v'.ownBlock = v.ownBlock ∨ v'.ownBlock = some w.heap.size) → wpList Tryz.prog ops Q rest (a.put o.dst v') w') :
    wpList Tryz.prog ops Q (o :: rest) a w := by
  obtain ⟨i0, hi, hz0, hz1, hz2⟩ := info_parts infoR
  refine wpList_append_own_at w hgd s x 86 ho base 22 i0 _ 1 24 Tryz.underlying86 hi hz0 hz1 hz2 rfl (by decide) v n xs hs hown ⟨G, 0, none⟩ 1 1 [u] hx rfl ?_ ?_ (by unfold maxLen; omega) (by omega) hbase fun v' w' h1 h2 _ h3 => h v' w' h1 h2 h3
  · intro j u' hj
    rw [Addr.add_lit, Nat.zero_add, blk_cell hG, ← Array.getElem?_toList]
    exact hj
  · intro u' hu'
    simp at hu'
    subst hu'; exact hu
end Go.Proofs.YtnnookkcnmgbfaaGreat
namespace Go.Proofs.YtnnookkcnmgbfaaGreat
open Go.ChangeShapes Go.WideShapes Go.ChangeAt Go.RowKit

theorem wrap32_nat {n : Nat} (h : n < 4294967296) : IntKind.u32.wrap (n : Int) = (n : Int) := by rw [IntKind.wrap_u32']; omega
theorem cs_mask {r : Nat} (h : r < 4294967296) :
    bits .xor .u32 ((r : Int) / 2) (bits .and .u32 2197175160 (-bits .and .u32 (r : Int) 1 % 4294967296)) = (cs r : Int) := by
  have h1 : bits .and .u32 (r : Int) 1 = ((r % 2 : Nat) : Int) := by
    have := u32_and_nat r 1 h (by omega)
    rw [nat_mask1] at this; exact this
  rw [h1, show (r : Int) / 2 = ((r / 2 : Nat) : Int) from by omega]
  unfold cs
  rcases Nat.mod_two_eq_zero_or_one r with e | e <;> rw [e]
  · have h2 : bits .and .u32 2197175160 (-((0 : Nat) : Int) % 4294967296) = ((0 : Nat) : Int) := by decide
    rw [h2, if_neg (by omega), u32_xor_nat _ _ (by omega) (by omega)]
  · have h2 : bits .and .u32 2197175160 (-((1 : Nat) : Int) % 4294967296) = ((2197175160 : Nat) : Int) := by decide
    rw [h2, if_pos rfl, u32_xor_nat _ _ (by omega) (by omega)]
theorem crc_end {r : Nat} (h : r < 4294967296) : bits .xor .u32 4294967295 (r : Int) = ((4294967295 ^^^ r : Nat) : Int) := u32_xor_nat 4294967295 r (by omega) h
theorem crcF_snoc {ns : List Nat} {k x : Nat} (h : ns[k]? = some x) (r : Nat) : crcF r (ns.take (k + 1)) = csN 8 (crcF r (ns.take k) ^^^ x) := by
  rw [List.take_add_one, h, crcF_append]; rfl

set_option maxRecDepth 20000 in
set_option maxHeartbeats 800000 in
theorem sum_c {w : World} {v : Value} {ns : List Nat} (hr : Rd w v (bv ns)) (hb : By ns) (hl : ns.length ≤ 140737488355328) :
    Calls Tryz.prog 63 #[v] w fun e w' => e = .returned (.int .u32 (crc ns : Int)) ∧ w' = w := by
  rcases hr.split with ⟨rfl, a, c, rfl⟩ | ⟨b, off, c, rfl, h1, h2, hc⟩
  · clear hr
    go_enter Tryz.func63, Tryz.ntmps63
    go_wp2
    refine wp_loop_rounds 1 ?_
    rw [rounds_succ]
    go_wp2
    go_ret
    exact ⟨rfl, rfl⟩
  · clear hr
    have HC := hid hc
    have HB := hid hb
    clear hc hb
    go_enter Tryz.func63, Tryz.ntmps63
    go_wp2
    go_loop [3, 9] (fun v3 v9 => ∃ (k r : Nat), k ≤ ns.length ∧ v9 = .int .i64 (k : Int) ∧ v3 = .int .u32 (r : Int) ∧ r < 4294967296 ∧ r = crcF 4294967295 (ns.take k)) (fun _ v9 => ns.length - (intOf v9).toNat)
    case atStart => exact ⟨0, 4294967295, by omega, rfl, rfl, by omega, rfl⟩
    case round =>
      obtain ⟨k, r, hk, rfl, rfl, hr, hrc⟩ := hrel
      have HR := hid hrc
      clear hrc
      by_cases hlt : k < ns.length
      · obtain ⟨x, hx, hd⟩ := drop_at hlt
        have hcell := HC.out k x hx
        have hx256 : x < 256 := HB.out.at hx
        have hxr := u32_xor_nat r x hr (by omega)
        have hs0 := crcF_snoc hx 4294967295
        rw [← HR.out] at hs0
        have HS := hid hs0
        clear hs0
        have hq : r ^^^ x < 4294967296 := xor_lt32 hr (by omega)
        clear hd hx
        generalize r ^^^ x = q at *
        go_wp2
        go_loop [3, 17] (fun v3 v17 => ∃ (j s : Nat), j ≤ 8 ∧ v17 = .int .i64 (j : Int) ∧ v3 = .int .u32 (s : Int) ∧ s < 4294967296 ∧ s = csN j q) (fun _ v17 => 8 - (intOf v17).toNat)
        case atStart => exact ⟨0, q, by omega, rfl, rfl, hq, rfl⟩
        case round =>
          obtain ⟨j, s, hj, rfl, rfl, hs, hsc⟩ := hrel
          have HSC := hid hsc
          clear hsc
          have hcm := cs_mask hs
          have hcl := cs_lt hs
          by_cases hj8 : j < 8
          · go_wp2
            go_round
            case rel => exact ⟨j + 1, cs s, by omega, by go_num, rfl, hcl, by rw [HSC.out]; rfl⟩
            case measure => simp [intOf]; omega
          · go_wp2
            have hj' : j = 8 := by omega
            go_round
            case rel => exact ⟨k + 1, s, by omega, by go_num, rfl, hs, by rw [HSC.out, hj', HS.out]⟩
            case measure => simp [intOf]; omega
      · have : k = ns.length := by omega
        subst this
        go_wp2
        go_ret
        refine ⟨?_, rfl⟩
        have hce := crc_end hr
        show Ending.returned (.int .u32 (bits .xor .u32 4294967295 (r : Int))) = _
        rw [hce, HR.out, List.take_length]; rfl

theorem cs_odd {r : Nat} (h : r < 4294967296) (e : r % 2 = 1) : bits .xor .u32 ((r : Int) / 2) 2197175160 = (cs r : Int) := by
  rw [show (r : Int) / 2 = ((r / 2 : Nat) : Int) from by omega]
  have := u32_xor_nat (r / 2) 2197175160 (by omega) (by omega)
  unfold cs; rw [if_pos e]; exact this
theorem cs_even {r : Nat} (e : ¬ r % 2 = 1) : (r : Int) / 2 = (cs r : Int) := by
  unfold cs; rw [if_neg e, Nat.xor_zero]; omega

set_option maxRecDepth 20000 in
set_option maxHeartbeats 800000 in
theorem refsum_c {w : World} {v : Value} {ns : List Nat} (hr : Rd w v (bv ns)) (hb : By ns) (hl : ns.length ≤ 140737488355328) :
    Calls Tryz.prog 66 #[v] w fun e w' => e = .returned (.int .u32 (crc ns : Int)) ∧ w' = w := by
  rcases hr.split with ⟨rfl, a, c, rfl⟩ | ⟨b, off, c, rfl, h1, h2, hc⟩
  · clear hr
    go_enter Tryz.func66, Tryz.ntmps66
    go_wp2
    refine wp_loop_rounds 1 ?_
    rw [rounds_succ]
    go_wp2
    go_ret
    exact ⟨rfl, rfl⟩
  · clear hr
    have HC := hid hc
    have HB := hid hb
    clear hc hb
    go_enter Tryz.func66, Tryz.ntmps66
    go_wp2
    go_loop [3, 4] (fun v3 v4 => ∃ (k r : Nat), k ≤ ns.length ∧ v4 = .int .i64 (k : Int) ∧ v3 = .int .u32 (r : Int) ∧ r < 4294967296 ∧ r = crcF 4294967295 (ns.take k)) (fun _ v4 => ns.length - (intOf v4).toNat)
    case atStart => exact ⟨0, 4294967295, by omega, rfl, rfl, by omega, rfl⟩
    case round =>
      obtain ⟨k, r, hk, rfl, rfl, hr, hrc⟩ := hrel
      have HR := hid hrc
      clear hrc
      by_cases hlt : k < ns.length
      · obtain ⟨x, hx, hd⟩ := drop_at hlt
        have hcell := HC.out k x hx
        have hx256 : x < 256 := HB.out.at hx
        have hxr := u32_xor_nat r x hr (by omega)
        have hs0 := crcF_snoc hx 4294967295
        rw [← HR.out] at hs0
        have HS := hid hs0
        clear hs0
        have hq : r ^^^ x < 4294967296 := xor_lt32 hr (by omega)
        clear hd hx
        generalize r ^^^ x = q at *
        go_wp2
        go_loop [3, 5] (fun v3 v5 => ∃ (j s : Nat), j ≤ 8 ∧ v5 = .int .i64 (j : Int) ∧ v3 = .int .u32 (s : Int) ∧ s < 4294967296 ∧ s = csN j q) (fun _ v5 => 8 - (intOf v5).toNat)
        case atStart => exact ⟨0, q, by omega, rfl, rfl, hq, rfl⟩
        case round =>
          obtain ⟨j, s, hj, rfl, rfl, hs, hsc⟩ := hrel
          have HSC := hid hsc
          clear hsc
          have hcl := cs_lt hs
          by_cases hj8 : j < 8
          · by_cases ho : s % 2 = 1
            · have ho' : ((s : Int) % 2 == 1) = true := by simp; omega
              have HO := hid (cs_odd hs ho)
              clear ho
              go_wp2
              go_round
              case rel => exact ⟨j + 1, cs s, by omega, by go_num, by rw [HO.out], hcl, by rw [HSC.out]; rfl⟩
              case measure => simp [intOf]; omega
            · have ho' : ((s : Int) % 2 == 1) = false := by simp; omega
              have HO := hid (cs_even ho)
              clear ho
              go_wp2
              go_round
              case rel => exact ⟨j + 1, cs s, by omega, by go_num, by rw [HO.out], hcl, by rw [HSC.out]; rfl⟩
              case measure => simp [intOf]; omega
          · go_wp2
            have hj' : j = 8 := by omega
            go_round
            case rel => exact ⟨k + 1, s, by omega, by go_num, rfl, hs, by rw [HSC.out, hj', HS.out]⟩
            case measure => simp [intOf]; omega
      · have : k = ns.length := by omega
        subst this
        go_wp2
        go_ret
        refine ⟨?_, rfl⟩
        have hce := crc_end hr
        show Ending.returned (.int .u32 (bits .xor .u32 4294967295 (r : Int))) = _
        rw [hce, HR.out, List.take_length]; rfl
end Go.Proofs.YtnnookkcnmgbfaaGreat
namespace Go.Proofs.YtnnookkcnmgbfaaGreat
open Go.ChangeShapes Go.WideShapes Go.ChangeAt Go.RowKit

theorem str_key : strOf (keyL [] 1 1) = ⟨#[1, 1, 0, 0, 0, 0, 0, 0]⟩ := by decide
theorem crc_known : crc [49, 50, 51, 52, 53, 54, 55, 56, 57] = 3808858755 := by decide +kernel
theorem put_known : putL 300 = [172, 2] := by rw [putL_ge (by omega), putL_lt (by omega)]
theorem str_put : strOf [172, 2] = ⟨#[172, 2]⟩ := by decide

theorem beq_str (s t : ByteArray) : (s.toList == t.toList) = decide (s = t) := by
  by_cases h : s = t
  · subst h; simp
  · have : s.toList ≠ t.toList := fun e => h (by
      cases s with | mk a => cases t with | mk b =>
      have h1 : a.toList = b.toList := by simpa [ByteArray.toList_eq] using e
      rw [Array.toList_inj.1 h1])
    simp [this, h]

set_option maxHeartbeats 400000 in
theorem bytes_c {w : World} {v1 v2 : Value} {a b : List Nat} (h1 : Rd w v1 (bv a)) (h2 : Rd w v2 (bv b)) (ha : By a) (hb : By b) :
    Calls Tryz.prog 8 #[v1, v2] w fun e w' => e = .returned (.bool (decide (a = b))) ∧ w' = w := by
  have e1 := run_conv h1
  have e2 := run_conv h2
  have e3 : ((strOf a).toList == (strOf b).toList) = decide (a = b) := by
    rw [beq_str]
    by_cases h : a = b
    · subst h; simp
    · have : strOf a ≠ strOf b := fun e => h (strOf_inj ha hb e)
      simp [this, h]
  obtain ⟨a1, c1, rfl⟩ := h1.form
  obtain ⟨a2, c2, rfl⟩ := h2.form
  clear h1 h2 ha hb
  go_enter Tryz.func8, Tryz.ntmps8
  go_wp2
  go_ret
  exact ⟨rfl, rfl⟩
end Go.Proofs.YtnnookkcnmgbfaaGreat
