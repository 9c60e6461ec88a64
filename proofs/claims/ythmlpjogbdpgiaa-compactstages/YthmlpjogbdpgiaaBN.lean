/-
  Blocks of entries without the program: what keys share, how entries are laid down, how they are read again.
-/
import Derived.Test.YthmlpjogbdpgiaaJ05
namespace Go.Proofs.Ythmlpjogbdpgiaa

theorem tk_inv : ∀ (b : List Nat), By b → ∀ (i v n k : Nat), tk i v b = (n, k, 0) → ∃ m, n = v + m * 2 ^ (7 * i) ∧ i + (putL m).length = k ∧ b = putL m ++ b.drop (k - i) ∧ (0 < i → m ≠ 0)
  | [], _, i, v, n, k, h => by rw [tk_nil] at h; simp at h
  | x :: r, hb, i, v, n, k, h => by
    by_cases h1 : i = 9 ∧ 1 < x ∨ 0 < i ∧ x = 0
    · rw [tk_bad h1] at h; simp at h
    · have hx : x < 256 := hb x (by simp)
      by_cases h2 : x < 128
      · rw [tk_end h1 h2] at h
        simp only [Prod.mk.injEq, and_true] at h
        obtain ⟨h3, h4⟩ := h
        refine ⟨x, by rw [← h3, Nat.mod_eq_of_lt h2], by rw [putL_lt h2]; exact h4, ?_, fun hi e => h1 (.inr ⟨hi, e⟩)⟩
        rw [putL_lt h2, ← h4, show i + 1 - i = 1 from by omega]; rfl
      · rw [tk_on h1 h2] at h
        obtain ⟨m, m1, m2, m3, m4⟩ := tk_inv r (fun y hy => hb y (List.mem_cons_of_mem _ hy)) _ _ _ _ h
        have hm := m4 (by omega)
        have hp : putL (x % 128 + 128 * m) = x :: putL m := by
          rw [putL_ge (by omega), show (x % 128 + 128 * m) % 128 + 128 = x from by omega, show (x % 128 + 128 * m) / 128 = m from by omega]
        refine ⟨x % 128 + 128 * m, ?_, by rw [hp, List.length_cons]; omega, ?_, fun _ => by omega⟩
        · rw [m1, show 7 * (i + 1) = 7 * i + 7 from by omega, Nat.pow_add, Nat.add_mul, show (2 : Nat) ^ 7 = 128 from rfl, Nat.add_assoc, Nat.mul_comm 128 m, Nat.mul_assoc m 128, Nat.mul_comm 128]
        · rw [hp, show k - i = (k - (i + 1)) + 1 from by omega, List.drop_succ_cons, List.cons_append, ← m3]
theorem takeL_inv {b : List Nat} (hb : By b) {n k : Nat} (h : takeL b = (n, k, 0)) : b = putL n ++ b.drop k ∧ k = (putL n).length := by
  obtain ⟨m, m1, m2, m3, _⟩ := tk_inv b hb 0 0 n k h
  have e : m = n := by rw [m1]; simp
  subst e
  exact ⟨by simpa using m3, by omega⟩

/-- How many elements two lists begin with alike. -/
def shr : List Nat → List Nat → Nat
  | x :: a, y :: b => if x = y then shr a b + 1 else 0
  | _, _ => 0
theorem shr_nil (b : List Nat) : shr [] b = 0 := by cases b <;> rfl
theorem shr_nil' (a : List Nat) : shr a [] = 0 := by cases a <;> rfl
theorem shr_le : ∀ (a b : List Nat), shr a b ≤ a.length ∧ shr a b ≤ b.length
  | [], b => by rw [shr_nil]; simp
  | x :: a, [] => by simp [shr]
  | x :: a, y :: b => by
    have := shr_le a b
    unfold shr
    split <;> simp <;> omega
theorem shr_take : ∀ (a b : List Nat), a.take (shr a b) = b.take (shr a b)
  | [], b => by rw [shr_nil]; simp
  | x :: a, [] => by simp [shr]
  | x :: a, y :: b => by
    have := shr_take a b
    unfold shr
    split
    · rename_i h; subst h; simp [this]
    · simp
theorem shr_eq : ∀ (n : Nat) (a b : List Nat), a.take n = b.take n → n ≤ a.length → n ≤ b.length → (n = min a.length b.length ∨ ∃ x y, a[n]? = some x ∧ b[n]? = some y ∧ x ≠ y) → shr a b = n
  | 0, [], b, _, _, _, _ => shr_nil b
  | 0, _ :: _, [], _, _, _, _ => rfl
  | 0, x :: a, y :: b, _, _, _, h => by
    rcases h with h | ⟨p, q, h1, h2, h3⟩
    · simp only [List.length_cons] at h; omega
    · simp at h1 h2
      unfold shr
      rw [if_neg (by rw [h1, h2]; exact h3)]
  | n + 1, [], _, _, h, _, _ => by simp at h
  | n + 1, _ :: _, [], _, _, h, _ => by simp at h
  | n + 1, x :: a, y :: b, h, ha, hb, hx => by
    simp only [List.take_succ_cons, List.cons.injEq] at h
    unfold shr
    rw [if_pos h.1, shr_eq n a b h.2 (by simpa using ha) (by simpa using hb)]
    rcases hx with hx | hx
    · left; simp only [List.length_cons] at hx; omega
    · right; simpa using hx

/-- Keys and values: pairs. -/
abbrev Ps := List (List Nat × List Nat)
def kA (ps : Ps) (i : Nat) : List Nat := (ps[i]?.getD ([], [])).1
def vA (ps : Ps) (i : Nat) : List Nat := (ps[i]?.getD ([], [])).2
def ahd (ps : Ps) (i : Nat) : List Nat := if i = 0 then [] else kA ps (i - 1)
def shd (r : Nat) (ps : Ps) (i : Nat) : Nat := if i % r = 0 then 0 else shr (ahd ps i) (kA ps i)
/-- An entry as it is laid down, s bytes of its key left out. -/
def ent (s : Nat) (k v : List Nat) : List Nat := putL s ++ (putL (k.length - s) ++ (putL v.length ++ (k.drop s ++ v)))
def bod (r : Nat) (ps : Ps) : Nat → List Nat
  | 0 => []
  | i + 1 => bod r ps i ++ ent (shd r ps i) (kA ps i) (vA ps i)
def plc (r : Nat) (ps : Ps) : Nat → List Nat
  | 0 => []
  | i + 1 => if i % r = 0 then plc r ps i ++ fixL (bod r ps i).length 4 else plc r ps i
/-- The block. -/
def blk (r : Nat) (ps : Ps) : List Nat := bod r ps ps.length ++ (plc r ps ps.length ++ fixL ((plc r ps ps.length).length / 4) 4)
/-- Does a key stand behind the one ahead of it (nothing: it is the first one)? -/
def flw (a k : List Nat) : Bool := if a = [] then isK k else isK a && (isK k && decide (ordK a k < 0))
def Rises (ps : Ps) : Prop := ∀ i, i < ps.length → flw (ahd ps i) (kA ps i) = true
def ByP (ps : Ps) : Prop := ∀ p ∈ ps, By p.1 ∧ By p.2

theorem kA_at {ps : Ps} {i : Nat} {p : List Nat × List Nat} (h : ps[i]? = some p) : kA ps i = p.1 ∧ vA ps i = p.2 := by
  unfold kA vA; rw [h]; exact ⟨rfl, rfl⟩
theorem kA_out {ps : Ps} {i : Nat} (h : ps.length ≤ i) : kA ps i = [] ∧ vA ps i = [] := by
  unfold kA vA; rw [List.getElem?_eq_none h]; exact ⟨rfl, rfl⟩
theorem ps_at {ps : Ps} {i : Nat} (h : i < ps.length) : ps[i]? = some (kA ps i, vA ps i) := by
  unfold kA vA; rw [List.getElem?_eq_getElem h]; rfl
theorem kA_by {ps : Ps} (h : ByP ps) (i : Nat) : By (kA ps i) ∧ By (vA ps i) := by
  by_cases hi : i < ps.length
  · exact h _ (List.mem_of_getElem? (ps_at hi))
  · have := kA_out (ps := ps) (i := i) (by omega)
    rw [this.1, this.2]
    exact ⟨fun n h => absurd h (by simp), fun n h => absurd h (by simp)⟩
theorem shd_le (r : Nat) (ps : Ps) (i : Nat) : shd r ps i ≤ (ahd ps i).length ∧ shd r ps i ≤ (kA ps i).length := by
  unfold shd
  split
  · simp
  · exact shr_le _ _
theorem shd_take (r : Nat) (ps : Ps) (i : Nat) : (kA ps i).take (shd r ps i) = (ahd ps i).take (shd r ps i) := by
  unfold shd
  split
  · simp
  · exact (shr_take _ _).symm
theorem ent_len (s : Nat) (k v : List Nat) : 3 ≤ (ent s k v).length ∧ (k.length - s) + v.length ≤ (ent s k v).length := by
  have h1 := putL_pos s; have h2 := putL_pos (k.length - s); have h3 := putL_pos v.length
  unfold ent; simp only [List.length_append, List.length_drop]; omega
theorem ent_by {s : Nat} {k v : List Nat} (hk : By k) (hv : By v) : By (ent s k v) :=
  (putL_by _).append ((putL_by _).append ((putL_by _).append ((hk.drop _).append hv)))
theorem bod_by {ps : Ps} (h : ByP ps) (r : Nat) : ∀ i, By (bod r ps i)
  | 0 => fun n h => by cases h
  | i + 1 => (bod_by h r i).append (ent_by (kA_by h i).1 (kA_by h i).2)
theorem plc_by (ps : Ps) (r : Nat) : ∀ i, By (plc r ps i)
  | 0 => fun n h => by cases h
  | i + 1 => by
    unfold plc
    split
    · exact (plc_by ps r i).append (fixL_by _ _)
    · exact plc_by ps r i
theorem blk_by {ps : Ps} (h : ByP ps) (r : Nat) : By (blk r ps) := (bod_by h r _).append ((plc_by ps r _).append (fixL_by _ _))
theorem bod_mono (r : Nat) (ps : Ps) : ∀ (d i : Nat), ∃ x, bod r ps (i + d) = bod r ps i ++ x
  | 0, i => ⟨[], by simp⟩
  | d + 1, i => by
    obtain ⟨x, hx⟩ := bod_mono r ps d i
    exact ⟨_, by rw [← Nat.add_assoc, bod, hx, List.append_assoc]⟩
theorem bod_lt (r : Nat) (ps : Ps) {i j : Nat} (h : i < j) : (bod r ps i).length + 3 ≤ (bod r ps j).length := by
  obtain ⟨x, hx⟩ := bod_mono r ps (j - (i + 1)) (i + 1)
  rw [show i + 1 + (j - (i + 1)) = j from by omega, bod] at hx
  rw [hx, List.length_append, List.length_append]
  have := (ent_len (shd r ps i) (kA ps i) (vA ps i)).1
  omega
theorem bod_le (r : Nat) (ps : Ps) {i j : Nat} (h : i ≤ j) : (bod r ps i).length ≤ (bod r ps j).length := by
  rcases Nat.lt_or_ge i j with h' | h'
  · have := bod_lt r ps h'; omega
  · have : i = j := by omega
    subst this; exact Nat.le_refl _
theorem bod_step (r : Nat) (ps : Ps) {i n : Nat} (h : i < n) : (bod r ps n).drop (bod r ps i).length = ent (shd r ps i) (kA ps i) (vA ps i) ++ (bod r ps n).drop (bod r ps (i + 1)).length := by
  obtain ⟨x, hx⟩ := bod_mono r ps (n - (i + 1)) (i + 1)
  rw [show i + 1 + (n - (i + 1)) = n from by omega] at hx
  rw [hx, List.drop_left, bod, List.append_assoc, List.drop_left]

/-- A number at t that is at most so much: it, and where it ends. -/
def numL (all : List Nat) (t most : Nat) : Option (Nat × Nat) :=
  if (takeL (all.drop t)).2.2 = 0 ∧ (takeL (all.drop t)).1 ≤ most then some ((takeL (all.drop t)).1, t + (takeL (all.drop t)).2.1) else none
theorem numL_put {all : List Nat} {t most n : Nat} {more : List Nat} (h : all.drop t = putL n ++ more) (hn : n < 18446744073709551616) (hm : n ≤ most) : numL all t most = some (n, t + (putL n).length) ∧ all.drop (t + (putL n).length) = more := by
  refine ⟨?_, by rw [← List.drop_drop, h, List.drop_left]⟩
  unfold numL
  rw [h, takeL_put hn more, if_pos ⟨rfl, hm⟩]
theorem numL_inv {all : List Nat} (hb : By all) {t most n t' : Nat} (h : numL all t most = some (n, t')) : n ≤ most ∧ t' = t + (putL n).length ∧ all.drop t = putL n ++ all.drop t' := by
  unfold numL at h
  split at h
  · rename_i hc
    rcases ht : takeL (all.drop t) with ⟨a, k, e⟩
    rw [ht] at h hc
    obtain ⟨rfl, hm⟩ := hc
    simp only [Option.some.injEq, Prod.mk.injEq] at h
    obtain ⟨rfl, rfl⟩ := h
    obtain ⟨h1, h2⟩ := takeL_inv (hb.drop t) ht
    exact ⟨hm, by rw [h2], by rw [← List.drop_drop]; exact h1⟩
  · cases h
/-- An entry at t, behind the key ahead: what it shares, its key, its value, and where it ends. -/
def lineL (all ahead : List Nat) (t : Nat) : Option (Nat × List Nat × List Nat × Nat) :=
  match numL all t ahead.length with
  | none => none
  | some (s, t1) => match numL all t1 all.length with
    | none => none
    | some (l, t2) => match numL all t2 all.length with
      | none => none
      | some (z, t3) => if t3 + l + z ≤ all.length then some (s, ahead.take s ++ (all.drop t3).take l, (all.drop (t3 + l)).take z, t3 + l + z) else none
theorem lineL_ent {all ahead : List Nat} {t s : Nat} {k v more : List Nat} (h : all.drop t = ent s k v ++ more) (ht : t ≤ all.length) (hs : s ≤ ahead.length) (hk : s ≤ k.length) (htk : k.take s = ahead.take s) (ha : all.length < 18446744073709551616) (hh : ahead.length < 18446744073709551616) :
    lineL all ahead t = some (s, k, v, t + (ent s k v).length) := by
  have hlen := congrArg List.length h
  rw [List.length_drop, List.length_append] at hlen
  have he := (ent_len s k v).2
  unfold ent at h
  rw [List.append_assoc] at h
  obtain ⟨h1, d1⟩ := numL_put (most := ahead.length) h (by omega) hs
  rw [List.append_assoc] at d1
  obtain ⟨h2, d2⟩ := numL_put (most := all.length) d1 (by omega) (by omega)
  rw [List.append_assoc] at d2
  obtain ⟨h3, d3⟩ := numL_put (most := all.length) d2 (by omega) (by omega)
  unfold lineL
  rw [h1]; dsimp only
  rw [h2]; dsimp only
  rw [h3]; dsimp only
  have hent : (ent s k v).length = (putL s).length + (putL (k.length - s)).length + (putL v.length).length + (k.length - s) + v.length := by
    unfold ent; simp only [List.length_append, List.length_drop]; omega
  rw [if_pos (by omega), d3]
  have e1 : (k.drop s ++ v ++ more).take (k.length - s) = k.drop s := by
    rw [List.append_assoc, show k.length - s = (k.drop s).length from by rw [List.length_drop], List.take_left]
  have e2 : all.drop (t + (putL s).length + (putL (k.length - s)).length + (putL v.length).length + (k.length - s)) = v ++ more := by
    rw [← List.drop_drop, d3, List.append_assoc, show k.length - s = (k.drop s).length from by rw [List.length_drop], List.drop_left]
  rw [e1, e2, List.take_left, ← htk, List.take_append_drop, hent]
  simp only [Option.some.injEq, Prod.mk.injEq, true_and]; omega
theorem lineL_inv {all ahead : List Nat} (hb : By all) {t s t' : Nat} {k v : List Nat} (ht : t ≤ all.length) (h : lineL all ahead t = some (s, k, v, t')) :
    s ≤ ahead.length ∧ s ≤ k.length ∧ k.take s = ahead.take s ∧ all.drop t = ent s k v ++ all.drop t' ∧ t' = t + (ent s k v).length ∧ t' ≤ all.length := by
  unfold lineL at h
  split at h
  · cases h
  · rename_i s' t1 h1
    split at h
    · cases h
    · rename_i l t2 h2
      split at h
      · cases h
      · rename_i z t3 h3
        split at h
        · rename_i hle
          simp only [Option.some.injEq, Prod.mk.injEq] at h
          obtain ⟨rfl, hk, hv, rfl⟩ := h
          obtain ⟨a1, a2, a3⟩ := numL_inv hb h1
          obtain ⟨b1, b2, b3⟩ := numL_inv hb h2
          obtain ⟨c1, c2, c3⟩ := numL_inv hb h3
          have l1 : ((all.drop t3).take l).length = l := by rw [List.length_take, List.length_drop]; omega
          have l2 : v.length = z := by rw [← hv, List.length_take, List.length_drop]; omega
          have l3 : (ahead.take s').length = s' := by rw [List.length_take]; omega
          have l4 : k.length = s' + l := by rw [← hk, List.length_append, l1, l3]
          have hd : k.drop s' = (all.drop t3).take l := by
            have := List.drop_left (l₁ := ahead.take s') (l₂ := (all.drop t3).take l)
            rw [l3] at this
            rw [← hk]; exact this
          have e1 : all.drop t3 = (all.drop t3).take l ++ (v ++ all.drop (t3 + l + z)) := by
            rw [← hv, ← List.drop_drop (i := z) (j := t3 + l), List.take_append_drop, ← List.drop_drop, List.take_append_drop]
          have e2 : all.drop t = ent s' k v ++ all.drop (t3 + l + z) := by
            unfold ent
            rw [a3, b3, c3, l2, l4, show s' + l - s' = l from by omega, hd]
            conv => lhs; rw [e1]
            simp only [List.append_assoc]
          refine ⟨a1, by omega, ?_, e2, ?_, hle⟩
          · have := List.take_left (l₁ := ahead.take s') (l₂ := (all.drop t3).take l)
            rw [l3] at this
            rw [← hk]; exact this
          · have := congrArg List.length e2
            rw [List.length_append, List.length_drop, List.length_drop] at this
            omega
        · cases h

/-- An entry as it was read: where it begins, what it leaves out, its key and value. -/
structure Ln where
  pos : Nat
  sh : Nat
  key : List Nat
  val : List Nat
def linesF : Nat → List Nat → Nat → List Nat → Option (List Ln)
  | 0, _, _, _ => none
  | f + 1, all, t, ahead => if t < all.length then
      match lineL all ahead t with
      | none => none
      | some (s, k, v, t') => if flw ahead k = true then (linesF f all t' k).map (⟨t, s, k, v⟩ :: ·) else none
    else some []
def ln (r : Nat) (ps : Ps) (i : Nat) : Ln := ⟨(bod r ps i).length, shd r ps i, kA ps i, vA ps i⟩
def lns (r : Nat) (ps : Ps) : Nat → Nat → List Ln
  | _, 0 => []
  | i, d + 1 => ln r ps i :: lns r ps (i + 1) d
theorem lns_len (r : Nat) (ps : Ps) : ∀ (d i : Nat), (lns r ps i d).length = d
  | 0, _ => rfl
  | d + 1, i => by rw [lns, List.length_cons, lns_len]
theorem lns_at (r : Nat) (ps : Ps) : ∀ (d i j : Nat), j < d → (lns r ps i d)[j]? = some (ln r ps (i + j))
  | 0, _, j, h => by omega
  | d + 1, i, 0, _ => rfl
  | d + 1, i, j + 1, h => by rw [lns, List.getElem?_cons_succ, lns_at r ps d (i + 1) j (by omega), show i + 1 + j = i + (j + 1) from by omega]
theorem kA_len {ps : Ps} (hr : Rises ps) (i : Nat) : (kA ps i).length ≤ 136 := by
  by_cases hi : i < ps.length
  · have h := hr i hi
    unfold flw at h
    split at h
    · exact (isK_len h).2.1
    · simp only [Bool.and_eq_true] at h
      exact (isK_len h.2.1).2.1
  · rw [(kA_out (by omega)).1]; simp
theorem ahd_len {ps : Ps} (hr : Rises ps) (i : Nat) : (ahd ps i).length ≤ 136 := by
  unfold ahd
  split
  · simp
  · exact kA_len hr _
theorem ahd_succ (ps : Ps) (i : Nat) : ahd ps (i + 1) = kA ps i := by unfold ahd; simp
theorem linesF_bod {r : Nat} {ps : Ps} (hr : Rises ps) {n : Nat} (hn : n ≤ ps.length) (ha : (bod r ps n).length < 18446744073709551616) :
    ∀ (d i f : Nat), i + d = n → d < f → linesF f (bod r ps n) (bod r ps i).length (ahd ps i) = some (lns r ps i d)
  | _, _, 0, _, h => by omega
  | 0, i, f + 1, h, _ => by
    have : i = n := by omega
    subst this
    rw [linesF, if_neg (by omega)]; rfl
  | d + 1, i, f + 1, h, hf => by
    have hlt := bod_lt r ps (i := i) (j := n) (by omega)
    have h1 := lineL_ent (ahead := ahd ps i) (bod_step r ps (i := i) (n := n) (by omega)) (by omega) (shd_le r ps i).1 (shd_le r ps i).2 (shd_take r ps i) ha (by have := ahd_len hr i; omega)
    rw [linesF, if_pos (by omega), h1]; dsimp only
    have e : (bod r ps i).length + (ent (shd r ps i) (kA ps i) (vA ps i)).length = (bod r ps (i + 1)).length := by rw [bod, List.length_append]
    have ih := linesF_bod hr hn ha d (i + 1) f (by omega) (by omega)
    rw [ahd_succ] at ih
    rw [if_pos (hr i (by omega)), e, ih]; rfl

def catL (ls : List Ln) : List Nat := ls.flatMap fun x => ent x.sh x.key x.val
def lnA (ls : List Ln) (i : Nat) : Ln := ls[i]?.getD ⟨0, 0, [], []⟩
def psL (ls : List Ln) : Ps := ls.map fun x => (x.key, x.val)
theorem lnA_at {ls : List Ln} {i : Nat} (h : i < ls.length) : ls[i]? = some (lnA ls i) := by unfold lnA; rw [List.getElem?_eq_getElem h]; rfl
theorem psL_at (ls : List Ln) (i : Nat) : kA (psL ls) i = (lnA ls i).key ∧ vA (psL ls) i = (lnA ls i).val := by
  unfold kA vA psL lnA
  rw [List.getElem?_map]
  cases ls[i]? <;> exact ⟨rfl, rfl⟩
theorem psL_len (ls : List Ln) : (psL ls).length = ls.length := List.length_map _
theorem psL_lns (r : Nat) (ps : Ps) : psL (lns r ps 0 ps.length) = ps := by
  apply List.ext_getElem?
  intro i
  by_cases hi : i < ps.length
  · unfold psL
    rw [List.getElem?_map, lns_at r ps _ 0 i hi, ps_at hi, Nat.zero_add]; rfl
  · rw [List.getElem?_eq_none (by rw [psL_len, lns_len]; omega), List.getElem?_eq_none (by omega)]
/-- Where lines stand, and behind which keys. -/
def OkL : Nat → List Nat → List Ln → Prop
  | _, _, [] => True
  | t, a, x :: ls => x.pos = t ∧ x.sh ≤ a.length ∧ x.sh ≤ x.key.length ∧ x.key.take x.sh = a.take x.sh ∧ flw a x.key = true ∧ OkL (t + (ent x.sh x.key x.val).length) x.key ls
theorem linesF_inv {all : List Nat} (hb : By all) : ∀ (f t : Nat) (ahead : List Nat) (ls : List Ln), t ≤ all.length → linesF f all t ahead = some ls → all.drop t = catL ls ∧ OkL t ahead ls
  | 0, _, _, _, _, h => by cases h
  | f + 1, t, ahead, ls, ht, h => by
    rw [linesF] at h
    split at h
    · split at h
      · cases h
      · rename_i s k v t' hl
        split at h
        · rename_i hf
          rw [Option.map_eq_some_iff] at h
          obtain ⟨l', h1, rfl⟩ := h
          obtain ⟨a1, a2, a3, a4, a5, a6⟩ := lineL_inv hb ht hl
          obtain ⟨b1, b2⟩ := linesF_inv hb f t' k l' a6 h1
          refine ⟨?_, rfl, a1, a2, a3, hf, by rw [← a5]; exact b2⟩
          rw [a4, b1]; rfl
        · cases h
    · simp only [Option.some.injEq] at h
      subst h
      exact ⟨by rw [List.drop_eq_nil_of_le (by omega)]; rfl, trivial⟩
def ahL (a : List Nat) (ls : List Ln) (i : Nat) : List Nat := if i = 0 then a else (lnA ls (i - 1)).key
theorem OkL.at : ∀ {ls : List Ln} {t : Nat} {a : List Nat}, OkL t a ls → ∀ i, i < ls.length → (lnA ls i).pos = t + (catL (ls.take i)).length ∧ flw (ahL a ls i) (lnA ls i).key = true
  | [], _, _, _, i, h => by simp at h
  | x :: ls, t, a, h, 0, _ => ⟨by simp [lnA, catL]; exact h.1, h.2.2.2.2.1⟩
  | x :: ls, t, a, h, i + 1, hi => by
    obtain ⟨h1, h2⟩ := OkL.at h.2.2.2.2.2 i (by simpa using hi)
    refine ⟨?_, ?_⟩
    · show (lnA ls i).pos = _
      rw [h1, List.take_succ_cons]
      simp only [catL, List.flatMap_cons, List.length_append]
      omega
    · have e : ahL a (x :: ls) (i + 1) = ahL x.key ls i := by
        unfold ahL
        cases i with
        | zero => rfl
        | succ j => rfl
      rw [e]; exact h2
theorem OkL.rises {ls : List Ln} (h : OkL 0 [] ls) : Rises (psL ls) := fun i hi => by
  rw [psL_len] at hi
  have := (h.at i hi).2
  rw [(psL_at ls i).1]
  unfold ahd ahL at *
  split
  · rename_i e; rw [if_pos e] at this; exact this
  · rename_i e; rw [if_neg e] at this; rw [(psL_at ls (i - 1)).1]; exact this
/-- What lines share is what a restart of c has them share. -/
def OkS (c : Nat) (ls : List Ln) (n : Nat) : Prop := ∀ i, i < n → (lnA ls i).sh = shd c (psL ls) i
def plN (c : Nat) (ls : List Ln) : Nat → List Nat
  | 0 => []
  | i + 1 => if i % c = 0 then plN c ls i ++ fixL (lnA ls i).pos 4 else plN c ls i
def Good (c : Nat) (ls : List Ln) (pl : List Nat) : Prop := 1 ≤ c ∧ c ≤ 64 ∧ OkS c ls ls.length ∧ plN c ls ls.length = pl
theorem cat_bod {c : Nat} {ls : List Ln} (hs : OkS c ls ls.length) : ∀ i, i ≤ ls.length → catL (ls.take i) = bod c (psL ls) i
  | 0, _ => by simp [catL, bod]
  | i + 1, hi => by
    have ih := cat_bod hs i (by omega)
    have hx := lnA_at (ls := ls) (i := i) (by omega)
    rw [List.take_add_one, hx, bod, ← ih, (psL_at ls i).1, (psL_at ls i).2, ← hs i (by omega)]
    simp [catL]
theorem pl_plc {c : Nat} {ls : List Ln} (ho : OkL 0 [] ls) (hs : OkS c ls ls.length) : ∀ i, i ≤ ls.length → plN c ls i = plc c (psL ls) i
  | 0, _ => rfl
  | i + 1, hi => by
    have ih := pl_plc ho hs i (by omega)
    rw [plN, plc, ih, (ho.at i (by omega)).1, Nat.zero_add, cat_bod hs i (by omega)]
/-- A block of these entries, with this restart. -/
structure Blk (b : List Nat) (ps : Ps) (r : Nat) : Prop where
  rises : Rises ps
  lo : 1 ≤ r
  hi : r ≤ 64
  eq : blk r ps = b
theorem plc_four (r : Nat) (ps : Ps) : ∀ i, (plc r ps i).length % 4 = 0
  | 0 => rfl
  | i + 1 => by
    have := plc_four r ps i
    unfold plc
    split
    · rw [List.length_append, fixL_len]; omega
    · exact this
theorem plc_le (r : Nat) (ps : Ps) : ∀ i, (plc r ps i).length ≤ 4 * i
  | 0 => by simp [plc]
  | i + 1 => by
    have := plc_le r ps i
    unfold plc
    split
    · rw [List.length_append, fixL_len]; omega
    · omega
theorem plc_mono (r : Nat) (ps : Ps) : ∀ (d i : Nat), ∃ x, plc r ps (i + d) = plc r ps i ++ x
  | 0, i => ⟨[], by simp⟩
  | d + 1, i => by
    obtain ⟨x, hx⟩ := plc_mono r ps d i
    rw [← Nat.add_assoc, plc, hx]
    split
    · exact ⟨_, List.append_assoc _ _ _⟩
    · exact ⟨_, rfl⟩
theorem plc_small {r : Nat} (hr : 1 ≤ r) (ps : Ps) : ∀ i, 1 ≤ i → i ≤ r → plc r ps i = fixL 0 4
  | 0, h, _ => by omega
  | 1, _, _ => by rw [plc, if_pos (Nat.zero_mod r)]; rfl
  | i + 2, _, h => by
    rw [plc, if_neg (by rw [Nat.mod_eq_of_lt (by omega)]; omega)]
    exact plc_small hr ps (i + 1) (by omega) (by omega)
theorem plc_second {r : Nat} (hr : 1 ≤ r) (ps : Ps) {n : Nat} (h : r < n) : ∃ x, plc r ps n = fixL 0 4 ++ (fixL (bod r ps r).length 4 ++ x) := by
  obtain ⟨x, hx⟩ := plc_mono r ps (n - (r + 1)) (r + 1)
  rw [show r + 1 + (n - (r + 1)) = n from by omega, plc, if_pos (Nat.mod_self r), plc_small hr ps r hr (Nat.le_refl _), List.append_assoc] at hx
  exact ⟨x, hx⟩
theorem cmpN_more : ∀ (u : List Nat) (x : Nat) (y : List Nat), cmpN (u ++ x :: y) u = 1
  | [], _, _ => by simp [cmpN]
  | z :: u, x, y => by simp [cmpN, cmpN_more u x y]
theorem flw_isK {a k : List Nat} (h : flw a k = true) : isK k = true := by
  unfold flw at h
  split at h
  · exact h
  · simp only [Bool.and_eq_true] at h; exact h.2.1
theorem shr_lt {a k : List Nat} (h : flw a k = true) (ha : a ≠ []) : shr a k < k.length := by
  have hle := shr_le a k
  rcases Nat.lt_or_ge (shr a k) k.length with hlt | hge
  · exact hlt
  · exfalso
    have hl : shr a k = k.length := by omega
    have ht := shr_take a k
    rw [hl, List.take_length] at ht
    unfold flw at h
    rw [if_neg ha] at h
    simp only [Bool.and_eq_true, decide_eq_true_eq] at h
    obtain ⟨h1, h2, h3⟩ := h
    have k1 := isK_len h1
    have k2 := isK_len h2
    rcases Nat.eq_or_lt_of_le (show k.length ≤ a.length from by omega) with he | hlt
    · rw [he, List.take_length] at ht
      subst ht
      have := ordK_neg a a
      omega
    · have hu : ∃ x y, userL a = userL k ++ x :: y := by
        have hlen : ((userL a).drop (userL k).length).length = a.length - k.length := by
          unfold userL; simp only [List.length_drop, List.length_take]; omega
        have hpre : (userL a).take (userL k).length = userL k := by
          unfold userL
          rw [List.take_take, List.length_take, ← ht, List.take_take]
          congr 1
          rw [List.length_take]; omega
        rcases hd : (userL a).drop (userL k).length with _ | ⟨x, y⟩
        · rw [hd] at hlen; simp at hlen; omega
        · exact ⟨x, y, by rw [← hd]; conv => lhs; rw [← List.take_append_drop (userL k).length (userL a), hpre]⟩
      obtain ⟨x, y, hu⟩ := hu
      have hc : cmpN (userL a) (userL k) = 1 := by rw [hu]; exact cmpN_more _ _ _
      unfold ordK ordP at h3
      rw [hc, if_neg (by decide)] at h3
      omega
theorem shd_lt {r : Nat} {ps : Ps} (hr : Rises ps) {i : Nat} (hi : i < ps.length) : shd r ps i < (kA ps i).length := by
  have h := hr i hi
  have hk := isK_len (flw_isK h)
  unfold shd
  split
  · omega
  · rename_i hm
    refine shr_lt h ?_
    have h0 : i ≠ 0 := fun e => hm (by rw [e]; exact Nat.zero_mod r)
    unfold ahd
    rw [if_neg h0]
    have hk' := isK_len (flw_isK (hr (i - 1) (by omega)))
    intro e
    rw [e] at hk'
    simp at hk'
end Go.Proofs.Ythmlpjogbdpgiaa
