/-
  Logs without the program: how a record is laid down, how a log is read, and what holds of both.
-/
import Derived.Test.YtmhhdlcdfgahkaaDoorNum
namespace Go.Proofs.YtmhhdlcdfgahkaaDoor

/-- How many bytes 0 come ahead of a fragment that stands behind so many bytes. -/
def zr (t : Nat) : Nat := if 64 - t % 64 < 7 then 64 - t % 64 else 0
/-- The room that its block has for it. -/
def lf (t : Nat) : Nat := if 64 - t % 64 < 7 then 64 else 64 - t % 64
theorem lf_ge (t : Nat) : 7 ≤ lf t := by unfold lf; split <;> omega
theorem lf_le (t : Nat) : lf t ≤ 64 := by unfold lf; split <;> omega
theorem zr_le (t : Nat) : zr t ≤ 6 := by unfold zr; split <;> omega
theorem zr_lf (t : Nat) : (t + zr t + lf t) % 64 = 0 := by unfold zr lf; split <;> omega
theorem zr_0 {t : Nat} (h : t % 64 = 0) : zr t = 0 := by unfold zr; rw [if_neg (by omega)]
theorem lf_0 {t : Nat} (h : t % 64 = 0) : lf t = 64 := by unfold lf; rw [if_neg (by omega)]; omega
theorem zr_mod (t : Nat) : zr (t % 64) = zr t := by unfold zr; rw [Nat.mod_mod]
theorem lf_mod (t : Nat) : lf (t % 64) = lf t := by unfold lf; rw [Nat.mod_mod]

/-- A fragment. -/
def fragL (k : Nat) (d : List Nat) : List Nat := fixL (crc (k :: d)) 4 ++ ([d.length % 256, d.length / 256, k] ++ d)
theorem fragL_len (k : Nat) (d : List Nat) : (fragL k d).length = 7 + d.length := by simp [fragL, fixL_len]; omega
/-- A fragment's kind: has the record begun, does it end? -/
def kd (bg en : Bool) : Nat := if bg then (if en then 4 else 3) else (if en then 1 else 2)
theorem kd_lt (bg en : Bool) : kd bg en < 256 := by cases bg <;> cases en <;> decide
theorem kd_ne (bg : Bool) : kd bg false ≠ kd bg true := by cases bg <;> decide
theorem fragL_by {k : Nat} {d : List Nat} (hk : k < 256) (hd : By d) (hl : d.length < 65536) : By (fragL k d) := by
  refine (fixL_by 4 _).append (By.append ?_ hd)
  intro x hx
  simp at hx
  omega
/-- A record's fragments. -/
def frs : Nat → Bool → Nat → List Nat → List Nat
  | 0, _, _, _ => []
  | f + 1, bg, l, r => if r.length ≤ l - 7 then fragL (kd bg true) r else fragL (kd bg false) (r.take (l - 7)) ++ frs f true 64 (r.drop (l - 7))
/-- The bytes of a record behind so many bytes. -/
def appL (t : Nat) (r : List Nat) : List Nat := List.replicate (zr t) 0 ++ frs (r.length + 2) false (lf t) r

theorem frs_fuel : ∀ (f g : Nat) (r : List Nat), r.length < f → r.length < g → frs f true 64 r = frs g true 64 r
  | 0, _, _, h, _ => by omega
  | _ + 1, 0, _, _, h => by omega
  | f + 1, g + 1, r, h1, h2 => by
    unfold frs
    by_cases h : r.length ≤ 64 - 7
    · rw [if_pos h, if_pos h]
    · rw [if_neg h, if_neg h, frs_fuel f g _ (by rw [List.length_drop]; omega) (by rw [List.length_drop]; omega)]
/-- So many fragments. -/
def nfr (l n : Nat) : Nat := 1 + ((n - (l - 7)) + 56) / 57
theorem frs_len : ∀ (f : Nat) (bg : Bool) (l : Nat) (r : List Nat), r.length + (if l = 7 then 1 else 0) < f → 7 ≤ l → (frs f bg l r).length = nfr l r.length * 7 + r.length
  | 0, _, _, _, h, _ => by omega
  | f + 1, bg, l, r, h, hl => by
    unfold frs
    by_cases h1 : r.length ≤ l - 7
    · rw [if_pos h1, fragL_len]; unfold nfr; omega
    · rw [if_neg h1, List.length_append, fragL_len, frs_len f true 64 _ (by rw [List.length_drop]; split at h <;> simp <;> omega) (by omega), List.length_take, List.length_drop]
      unfold nfr
      omega
theorem appL_len (t : Nat) (r : List Nat) : (appL t r).length = zr t + (nfr (lf t) r.length * 7 + r.length) := by
  unfold appL
  rw [List.length_append, List.length_replicate, frs_len _ _ _ _ (by split <;> omega) (lf_ge t)]
theorem frs_by : ∀ (f : Nat) (bg : Bool) (l : Nat) (r : List Nat), l ≤ 64 → By r → By (frs f bg l r)
  | 0, _, _, _, _, _ => fun x hx => by simp [frs] at hx
  | f + 1, bg, l, r, hl, hr => by
    unfold frs
    split
    · exact fragL_by (kd_lt _ _) hr (by omega)
    · exact (fragL_by (kd_lt _ _) (hr.take _) (by rw [List.length_take]; omega)).append (frs_by f true 64 _ (by omega) (hr.drop _))
theorem appL_by {t : Nat} {r : List Nat} (hr : By r) : By (appL t r) :=
  By.append (fun x hx => by rw [List.mem_replicate] at hx; omega) (frs_by _ _ _ _ (lf_le t) hr)
theorem appL_mod (t : Nat) (r : List Nat) : appL (t % 64) r = appL t r := by unfold appL; rw [zr_mod, lf_mod]
theorem appL_pos (t : Nat) (r : List Nat) : 7 ≤ (appL t r).length := by rw [appL_len]; unfold nfr; omega

/-- The fragment that comes behind so many bytes. -/
def fnd (b : List Nat) (t : Nat) : Option (Nat × List Nat × Nat) :=
  if t + zr t + 7 ≤ b.length ∧ (∀ x ∈ (b.drop t).take (zr t), x = 0) ∧ 7 + (b.getD (t + zr t + 4) 0 + 256 * b.getD (t + zr t + 5) 0) ≤ lf t ∧ t + zr t + 7 + (b.getD (t + zr t + 4) 0 + 256 * b.getD (t + zr t + 5) 0) ≤ b.length ∧
      crc ((b.drop (t + zr t + 6)).take (1 + (b.getD (t + zr t + 4) 0 + 256 * b.getD (t + zr t + 5) 0))) = unf ((b.drop (t + zr t)).take 4) then
    some (b.getD (t + zr t + 6) 0, (b.drop (t + zr t + 7)).take (b.getD (t + zr t + 4) 0 + 256 * b.getD (t + zr t + 5) 0), t + zr t + 7 + (b.getD (t + zr t + 4) 0 + 256 * b.getD (t + zr t + 5) 0)) else none

/-- What a fragment that was found is. -/
theorem fnd_some {b : List Nat} {t k e : Nat} {d : List Nat} (h : fnd b t = some (k, d, e)) : ∃ s n, s = t + zr t ∧ n = b.getD (s + 4) 0 + 256 * b.getD (s + 5) 0 ∧ s + 7 ≤ b.length ∧ (∀ x ∈ (b.drop t).take (zr t), x = 0) ∧ 7 + n ≤ lf t ∧ e = s + 7 + n ∧ e ≤ b.length ∧ crc ((b.drop (s + 6)).take (1 + n)) = unf ((b.drop s).take 4) ∧ k = b.getD (s + 6) 0 ∧ d = (b.drop (s + 7)).take n := by
  unfold fnd at h
  split at h
  · rename_i c
    simp only [Option.some.injEq, Prod.mk.injEq] at h
    obtain ⟨c1, c2, c3, c4, c5⟩ := c
    exact ⟨_, _, rfl, rfl, c1, c2, c3, h.2.2.symm, by omega, c5, h.1.symm, h.2.1.symm⟩
  · cases h
theorem fnd_mk {b : List Nat} {t s n : Nat} (hs : s = t + zr t) (hn : n = b.getD (s + 4) 0 + 256 * b.getD (s + 5) 0) (c1 : s + 7 ≤ b.length) (c2 : ∀ x ∈ (b.drop t).take (zr t), x = 0) (c3 : 7 + n ≤ lf t) (c4 : s + 7 + n ≤ b.length) (c5 : crc ((b.drop (s + 6)).take (1 + n)) = unf ((b.drop s).take 4)) :
    fnd b t = some (b.getD (s + 6) 0, (b.drop (s + 7)).take n, s + 7 + n) := by
  subst hs hn
  unfold fnd
  rw [if_pos ⟨c1, c2, c3, c4, c5⟩]
theorem fnd_end {b : List Nat} {t k e : Nat} {d : List Nat} (h : fnd b t = some (k, d, e)) : t + 7 ≤ e ∧ e ≤ b.length ∧ d.length + t ≤ e ∧ e ≤ t + 70 := by
  obtain ⟨s, n, h1, h2, h3, h4, h5, h6, h7, h8, h9, h10⟩ := fnd_some h
  have := zr_le t
  have := lf_le t
  refine ⟨by omega, h7, ?_, by omega⟩
  rw [h10, List.length_take]; omega
theorem fnd_none {b : List Nat} {t : Nat} (h : b.length < t + 7) : fnd b t = none := by
  unfold fnd
  rw [if_neg (by omega)]

theorem getD_drop (b : List Nat) (s j : Nat) : b.getD (s + j) 0 = (b.drop s).getD j 0 := by
  simp [List.getD, List.getElem?_drop]
/-- A fragment that was laid down is found. -/
theorem fnd_frag {b : List Nat} {t k : Nat} {d rest : List Nat} (h : b.drop t = List.replicate (zr t) 0 ++ (fragL k d ++ rest)) (hk : k < 256) (hd : By d) (hl : 7 + d.length ≤ lf t) : fnd b t = some (k, d, t + zr t + 7 + d.length) := by
  have hlf := lf_le t
  have hB : b.drop (t + zr t) = fragL k d ++ rest := by
    rw [← List.drop_drop, h, List.drop_left' (by simp)]
  have hlen : b.length = t + zr t + 7 + d.length + rest.length := by
    have h1 := congrArg List.length h
    rw [List.length_append, List.length_append, List.length_drop, fragL_len, List.length_replicate] at h1
    omega
  have hcl : crc (k :: d) < 4294967296 := crc_lt (fun x hx => by rcases List.mem_cons.1 hx with rfl | hx; exact hk; exact hd x hx)
  have hu : unf (fixL (crc (k :: d)) 4) = crc (k :: d) := by rw [unf_fixL]; exact Nat.mod_eq_of_lt hcl
  obtain ⟨c, hc⟩ : ∃ c, c = crc (k :: d) := ⟨_, rfl⟩
  have hF : fragL k d ++ rest = c % 256 :: c / 256 % 256 :: c / 256 / 256 % 256 :: c / 256 / 256 / 256 % 256 :: d.length % 256 :: d.length / 256 :: k :: (d ++ rest) := by
    rw [hc]; simp [fragL, fixL]
  have hu4 : unf [c % 256, c / 256 % 256, c / 256 / 256 % 256, c / 256 / 256 / 256 % 256] = c := by rw [hc]; exact hu
  rw [hF] at hB
  have g4 : b.getD (t + zr t + 4) 0 = d.length := by rw [getD_drop, hB]; simp; omega
  have g5 : b.getD (t + zr t + 5) 0 = 0 := by rw [getD_drop, hB]; simp; omega
  have g6 : b.getD (t + zr t + 6) 0 = k := by rw [getD_drop, hB]; simp
  have d6 : b.drop (t + zr t + 6) = k :: (d ++ rest) := by rw [← List.drop_drop, hB]; rfl
  have d7 : b.drop (t + zr t + 7) = d ++ rest := by rw [← List.drop_drop, hB]; rfl
  have hn : d.length = b.getD (t + zr t + 4) 0 + 256 * b.getD (t + zr t + 5) 0 := by rw [g4, g5]; omega
  rw [fnd_mk (n := d.length) rfl hn (by omega) ?_ hl (by omega) ?_, g6, d7, List.take_left' rfl]
  · rw [h, List.take_left' (by simp)]
    intro x hx
    exact (List.mem_replicate.1 hx).2
  · rw [d6, hB]
    show crc ((k :: (d ++ rest)).take (1 + d.length)) = unf _
    rw [Nat.add_comm, List.take_succ_cons, List.take_left' rfl]
    show _ = unf [c % 256, c / 256 % 256, c / 256 / 256 % 256, c / 256 / 256 / 256 % 256]
    rw [hu4, hc]

/-- Only the bytes up to its end matter. -/
theorem sub_agree {b b' : List Nat} {e : Nat} (h : b'.take e = b.take e) {x y : Nat} (hxy : x + y ≤ e) : (b'.drop x).take y = (b.drop x).take y := by
  have e1 : ∀ c : List Nat, (c.drop x).take y = ((c.take e).drop x).take y := fun c => by
    rw [List.drop_take, List.take_take, Nat.min_eq_left (by omega)]
  rw [e1 b', e1 b, h]
theorem getD_agree {b b' : List Nat} {e : Nat} (h : b'.take e = b.take e) {x : Nat} (hx : x < e) : b'.getD x 0 = b.getD x 0 := by
  have e1 : ∀ c : List Nat, c.getD x 0 = (c.take e).getD x 0 := fun c => by
    simp [List.getD, hx]
  rw [e1 b', e1 b, h]
theorem fnd_agree {b b' : List Nat} {t k e : Nat} {d : List Nat} (h : fnd b t = some (k, d, e)) (ha : b'.take e = b.take e) (hl : e ≤ b'.length) : fnd b' t = some (k, d, e) := by
  obtain ⟨s, n, h1, h2, h3, h4, h5, h6, h7, h8, h9, h10⟩ := fnd_some h
  have hz := zr_le t
  rw [fnd_mk (b := b') h1 (n := n) (by rw [getD_agree ha (by omega), getD_agree ha (by omega)]; exact h2) (by omega) (by rw [sub_agree ha (by omega)]; exact h4) h5 (by omega) (by rw [sub_agree ha (by omega), sub_agree ha (by omega)]; exact h8),
    getD_agree ha (by omega), sub_agree ha (by omega), ← h9, ← h10, ← h6]
theorem fnd_cut {b : List Nat} {t k e c : Nat} {d : List Nat} (h : fnd b t = some (k, d, e)) (hc : c < e) : fnd (b.take c) t = none := by
  obtain ⟨s, n, h1, h2, h3, h4, h5, h6, h7, h8, h9, h10⟩ := fnd_some h
  have hlen : (b.take c).length = c := by rw [List.length_take]; omega
  rcases hr : fnd (b.take c) t with _ | ⟨k', d', e'⟩
  · rfl
  · exfalso
    obtain ⟨s', n', h1', h2', h3', h4', h5', h6', h7', -⟩ := fnd_some hr
    have hss : s' = s := by omega
    subst hss
    rw [hlen] at h3' h7'
    have ha : (b.take c).take c = b.take c := by rw [List.take_take, Nat.min_self]
    rw [getD_agree ha (by omega), getD_agree ha (by omega), ← h2] at h2'
    omega
theorem unf_inj {a b : List Nat} (ha : By a) (hb : By b) (hl : a.length = b.length) (h : unf a = unf b) : a = b := by
  rw [← fixL_unf a ha, ← fixL_unf b hb, h, hl]
theorem By.set {b : List Nat} (h : By b) {p y : Nat} (hy : y < 256) : By (b.set p y) := fun x hx => by
  rcases List.mem_or_eq_of_mem_set hx with h1 | h1
  · exact h x h1
  · omega
theorem set_take_ne {b : List Nat} {p y x n : Nat} (h : p < x ∨ x + n ≤ p) : ((b.set p y).drop x).take n = (b.drop x).take n := by
  apply List.ext_getElem?
  intro i
  rw [List.getElem?_take, List.getElem?_take]
  split
  · rw [List.getElem?_drop, List.getElem?_drop, List.getElem?_set_ne (by omega)]
  · rfl
theorem set_take_in {b : List Nat} {p y x n : Nat} (h1 : x ≤ p) : ((b.set p y).drop x).take n = ((b.drop x).take n).set (p - x) y := by
  rw [List.drop_set, if_neg (by omega), List.take_set]
theorem getD_set_ne {b : List Nat} {p y x : Nat} (h : p ≠ x) : (b.set p y).getD x 0 = b.getD x 0 := by
  simp [List.getD, List.getElem?_set_ne h]
theorem set_ne {a : List Nat} {q x y : Nat} (hq : a[q]? = some x) (h : y ≠ x) : a.set q y ≠ a := by
  intro e
  have h1 : (a.set q y)[q]? = some y := by rw [List.getElem?_set_self (List.getElem?_eq_some_iff.1 hq).1]
  rw [e, hq] at h1
  simp at h1
  omega
theorem split_set {a : List Nat} {q x y : Nat} (hq : a[q]? = some x) : a = a.take q ++ x :: a.drop (q + 1) ∧ a.set q y = a.take q ++ y :: a.drop (q + 1) := by
  have hl := (List.getElem?_eq_some_iff.1 hq).1
  have hx := (List.getElem?_eq_some_iff.1 hq).2
  refine ⟨?_, ?_⟩
  · rw [← hx, ← List.drop_eq_getElem_cons hl, List.take_append_drop]
  · rw [List.set_eq_take_append_cons_drop, if_pos hl]
/-- With a byte changed that isn't one of its length's a fragment isn't found. -/
theorem fnd_hurt {b : List Nat} {t k e p x y : Nat} {d : List Nat} (h : fnd b t = some (k, d, e)) (hb : By b) (hp1 : t ≤ p) (hp2 : p < e) (hx : b[p]? = some x) (hxy : y ≠ x) (hy : y < 256) (h4' : p ≠ t + zr t + 4) (h5' : p ≠ t + zr t + 5) : fnd (b.set p y) t = none := by
  obtain ⟨s, n, h1, h2, h3, h4, h5, h6, h7, h8, h9, h10⟩ := fnd_some h
  rw [← h1] at h4' h5'
  rcases hr : fnd (b.set p y) t with _ | ⟨k', d', e'⟩
  · rfl
  · exfalso
    obtain ⟨s', n', g1, g2, g3, g4, g5, g6, g7, g8, -, -⟩ := fnd_some hr
    have hss : s' = s := by omega
    subst hss
    rw [getD_set_ne h4', getD_set_ne h5', ← h2] at g2
    subst g2
    rcases (show p < s' ∨ (s' ≤ p ∧ p < s' + 4) ∨ s' + 6 ≤ p from by omega) with q | q | q
    · rw [set_take_in hp1] at g4
      have hm : ((b.drop t).take (zr t))[p - t]? = some x := by
        rw [List.getElem?_take, if_pos (by omega), List.getElem?_drop, show t + (p - t) = p from by omega]; exact hx
      have hx0 := h4 x (List.mem_of_getElem? hm)
      have hy0 := g4 y (List.mem_of_getElem? (i := p - t) (by rw [List.getElem?_set_self (List.getElem?_eq_some_iff.1 hm).1]))
      omega
    · rw [set_take_ne (.inl (by omega)), set_take_in q.1, h8] at g8
      have hm : ((b.drop s').take 4)[p - s']? = some x := by
        rw [List.getElem?_take, if_pos (by omega), List.getElem?_drop, show s' + (p - s') = p from by omega]; exact hx
      exact set_ne hm hxy (unf_inj (((hb.drop _).take _).set hy) ((hb.drop _).take _) (by simp) g8.symm)
    · rw [set_take_in (by omega), set_take_ne (.inr (by omega)), ← h8] at g8
      have hm : ((b.drop (s' + 6)).take (1 + n'))[p - (s' + 6)]? = some x := by
        rw [List.getElem?_take, if_pos (by omega), List.getElem?_drop, show s' + 6 + (p - (s' + 6)) = p from by omega]; exact hx
      obtain ⟨e1, e2⟩ := split_set (y := y) hm
      have hB := (hb.drop (s' + 6)).take (1 + n')
      rw [e2] at g8
      generalize (b.drop (s' + 6)).take (1 + n') = a at *
      exact crc_change (hB.take _) hy (hb.at hx) (hB.drop _) hxy (by rw [← e1]; exact g8)
end Go.Proofs.YtmhhdlcdfgahkaaDoor
