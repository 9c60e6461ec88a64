/-
  Cut, without the program.
-/
import Derived.Test.YthmlpjogbdpgiaaJ12
import Derived.Test.YthmlpjogbdpgiaaJ06
namespace Go.Proofs.Ythmlpjogbdpgiaa

/-- Where cutting stands: pieces that are done, the one under way, its bytes. -/
def cutAt (sz : Nat) (ps : Ps) : Nat → List Ps × Ps × Nat
  | 0 => ([], [], 0)
  | i + 1 => if sz ≤ (cutAt sz ps i).2.2 ∧ userL (kA ps i) ≠ userL (kA ps (i - 1)) then ((cutAt sz ps i).1 ++ [(cutAt sz ps i).2.1], [(kA ps i, vA ps i)], (kA ps i).length + (vA ps i).length)
    else ((cutAt sz ps i).1, (cutAt sz ps i).2.1 ++ [(kA ps i, vA ps i)], (cutAt sz ps i).2.2 + ((kA ps i).length + (vA ps i).length))
def cutF (sz : Nat) (ps : Ps) : List Ps := if ps.length = 0 then [] else (cutAt sz ps ps.length).1 ++ [(cutAt sz ps ps.length).2.1]
/-- Pieces of ps, none empty, no user key in two of them. -/
structure Cuts (ps : Ps) (PP : List Ps) : Prop where
  all : PP.flatten = ps
  pos : ∀ (i : Nat) (p : Ps), PP[i]? = some p → p ≠ []
  two : ∀ (i : Nat), 0 < i → i < PP.length → userL (kA ps ((PP.take i).flatten.length - 1)) ≠ userL (kA ps (PP.take i).flatten.length)
theorem cutAt_ok {sz : Nat} {ps : Ps} (hs : 0 < sz) : ∀ i, i ≤ ps.length →
    ((cutAt sz ps i).1.flatten ++ (cutAt sz ps i).2.1 = ps.take i) ∧ (∀ (k : Nat) (p : Ps), (cutAt sz ps i).1[k]? = some p → p ≠ []) ∧
    (∀ (k : Nat), 0 < k → k ≤ (cutAt sz ps i).1.length → userL (kA ps (((cutAt sz ps i).1.take k).flatten.length - 1)) ≠ userL (kA ps ((cutAt sz ps i).1.take k).flatten.length)) ∧
    ((cutAt sz ps i).2.1 = [] → i = 0 ∧ (cutAt sz ps i).2.2 = 0 ∧ (cutAt sz ps i).1 = []) := by
  intro i
  induction i with
  | zero => intro _; simp [cutAt]; omega
  | succ i ih =>
    intro hi
    obtain ⟨h1, h2, h3, h4⟩ := ih (by omega)
    have e : ps.take (i + 1) = ps.take i ++ [(kA ps i, vA ps i)] := by
      have h0 := ps_at (show i < ps.length by omega)
      obtain ⟨hl, he⟩ := List.getElem?_eq_some_iff.1 h0
      rw [List.take_succ_eq_append_getElem hl, he]
    rw [cutAt]
    by_cases hc : sz ≤ (cutAt sz ps i).2.2 ∧ userL (kA ps i) ≠ userL (kA ps (i - 1))
    · rw [if_pos hc]
      have hne : (cutAt sz ps i).2.1 ≠ [] := fun h => by have := (h4 h).2.1; omega
      have hfl : (((cutAt sz ps i).1 ++ [(cutAt sz ps i).2.1]).flatten).length = i := by
        rw [List.flatten_append, List.flatten_singleton, h1, List.length_take]; omega
      refine ⟨?_, fun k p hk => ?_, fun k hk0 hk => ?_, fun h => by simp at h⟩
      · show ((cutAt sz ps i).1 ++ [(cutAt sz ps i).2.1]).flatten ++ [(kA ps i, vA ps i)] = _
        rw [List.flatten_append, List.flatten_singleton, h1, e]
      · rcases Nat.lt_or_ge k (cutAt sz ps i).1.length with hlt | hge
        · rw [List.getElem?_append_left hlt] at hk
          exact h2 k p hk
        · rw [List.getElem?_append_right hge] at hk
          have : k - (cutAt sz ps i).1.length = 0 := by
            rcases Nat.eq_zero_or_pos (k - (cutAt sz ps i).1.length) with h | h
            · exact h
            · rw [List.getElem?_eq_none (by simp; omega)] at hk; cases hk
          rw [this] at hk
          simp at hk
          subst hk
          exact hne
      · rw [List.length_append, List.length_singleton] at hk
        by_cases hk2 : k ≤ (cutAt sz ps i).1.length
        · rw [List.take_append_of_le_length hk2]
          exact h3 k hk0 hk2
        · rw [List.take_of_length_le (by simp; omega), hfl]
          exact fun h => hc.2 h.symm
    · rw [if_neg hc]
      refine ⟨?_, h2, h3, fun h => by simp at h⟩
      show (cutAt sz ps i).1.flatten ++ ((cutAt sz ps i).2.1 ++ [(kA ps i, vA ps i)]) = _
      rw [← List.append_assoc, h1, e]
theorem cutF_cuts {sz : Nat} {ps : Ps} (hs : 0 < sz) : Cuts ps (cutF sz ps) := by
  unfold cutF
  by_cases h0 : ps.length = 0
  · rw [if_pos h0]
    have : ps = [] := List.eq_nil_of_length_eq_zero h0
    subst this
    exact ⟨rfl, fun i p h => by simp at h, fun i _ h => by simp at h⟩
  · rw [if_neg h0]
    obtain ⟨h1, h2, h3, h4⟩ := cutAt_ok (ps := ps) hs ps.length (Nat.le_refl _)
    rw [List.take_length] at h1
    refine ⟨by rw [List.flatten_append, List.flatten_singleton]; exact h1, fun k p hk => ?_, fun k hk0 hk => ?_⟩
    · rcases Nat.lt_or_ge k (cutAt sz ps ps.length).1.length with hlt | hge
      · rw [List.getElem?_append_left hlt] at hk
        exact h2 k p hk
      · rw [List.getElem?_append_right hge] at hk
        have : k - (cutAt sz ps ps.length).1.length = 0 := by
          rcases Nat.eq_zero_or_pos (k - (cutAt sz ps ps.length).1.length) with h | h
          · exact h
          · rw [List.getElem?_eq_none (by simp; omega)] at hk; cases hk
        rw [this] at hk
        simp at hk
        subst hk
        exact fun h => h0 (h4 h).1
    · rw [List.length_append, List.length_singleton] at hk
      rw [List.take_append_of_le_length (by omega)]
      exact h3 k hk0 (by omega)
theorem cutAt_have {sz : Nat} {ps : Ps} (hl : ∀ p ∈ ps, p.1.length ≤ 140737488355328 ∧ p.2.length ≤ 140737488355328) : ∀ i, i ≤ ps.length → (cutAt sz ps i).2.2 ≤ i * 281474976710656 := by
  intro i
  induction i with
  | zero => intro _; simp [cutAt]
  | succ i ih =>
    intro hi
    have h1 := ih (by omega)
    have h2 := hl _ (List.mem_of_getElem? (ps_at (show i < ps.length by omega)))
    rw [cutAt]
    split
    · show (kA ps i).length + (vA ps i).length ≤ _
      dsimp only at h2
      omega
    · show (cutAt sz ps i).2.2 + ((kA ps i).length + (vA ps i).length) ≤ _
      dsimp only at h2
      omega
theorem cutAt_len {sz : Nat} {ps : Ps} : ∀ i, (cutAt sz ps i).1.length ≤ i ∧ (cutAt sz ps i).2.1.length ≤ i := by
  intro i
  induction i with
  | zero => simp [cutAt]
  | succ i ih =>
    rw [cutAt]
    split
    · simp; omega
    · simp; omega
end Go.Proofs.Ythmlpjogbdpgiaa
namespace Go.Proofs.Ythmlpjogbdpgiaa
open Go.ChangeShapes Go.WideShapes Go.ChangeAt Go.RowKit

theorem Rd.mid {w : World} {b off c : Nat} {ns : List Nat} (h : Rd w (.slice (some ⟨b, off, none⟩) ns.length c) (bv ns)) {i n : Nat} (hq : i + n ≤ ns.length) : Rd w (.slice (some ⟨b, off + i, none⟩) n (c - i)) (bv ((ns.drop i).take n)) := by
  rcases h with ⟨h, _⟩ | ⟨a, c', h, h4, h5⟩
  · cases h
  · simp only [Value.slice.injEq, Option.some.injEq] at h
    obtain ⟨rfl, _, rfl⟩ := h
    have hl : ((ns.drop i).take n).length = n := by rw [List.length_take, List.length_drop]; omega
    refine .inr ⟨_, _, by rw [bv_len, hl], by rw [bv_len] at h4 ⊢; rw [hl]; omega, fun j u hj => ?_⟩
    rw [bv_take, List.getElem?_take] at hj
    split at hj
    · rw [bv_drop, List.getElem?_drop] at hj
      have := h5 _ _ hj
      rw [Addr.add_lit] at this ⊢
      rw [Nat.add_assoc]; exact this
    · cases hj
theorem Rd.none_ {w : World} {a : Addr} {n c : Nat} {ns : List Nat} (h : ns.length = 0) (hn : n = 0) : Rd w (.slice (some a) n c) (bv ns) := by
  have : ns = [] := List.eq_nil_of_length_eq_zero h
  subst this
  subst hn
  exact .inr ⟨a, c, rfl, Nat.zero_le _, fun j u hj => by simp [bv] at hj⟩
end Go.Proofs.Ythmlpjogbdpgiaa
namespace Go.Proofs.Ythmlpjogbdpgiaa
open Go.ChangeShapes Go.WideShapes Go.ChangeAt Go.RowKit

theorem infoR : (Try.prog.info? 35).map (fun i => (i.zero, i.size, i.bytes)) = some (some (.slice none 0 0), 1, 24) := by kernel_rfl

/-- A list of lists of bytes that can be read. -/
def RdL (w : World) (v : Value) (rs : List (List Nat)) : Prop :=
  ∃ a c, v = .slice a rs.length c ∧ (0 < rs.length → ∃ b off, a = some ⟨b, off, none⟩ ∧ ∀ (j : Nat) (r : List Nat), rs[j]? = some r → ∃ a' c', w.cell? ⟨b, off + j, none⟩ = some (.slice a' r.length c') ∧ Rd w (.slice a' r.length c') (bv r) ∧ By r ∧ r.length ≤ 140737488355328)
theorem RdL.fr {w w' : World} {v : Value} {rs : List (List Nat)} (h : RdL w v rs) (f : Fr [] w w') : RdL w' v rs := by
  obtain ⟨a, c, h1, h2⟩ := h
  refine ⟨a, c, h1, fun h0 => ?_⟩
  obtain ⟨b, off, h3, h4⟩ := h2 h0
  refine ⟨b, off, h3, fun j r hj => ?_⟩
  obtain ⟨a', c', k1, k2, k3⟩ := h4 j r hj
  refine ⟨a', c', ?_, k2.fr f, k3⟩
  rw [World.cell?_of_block (w := w) (f.block _ (World.block_lt_of_cell? w _ k1) (by simp))]; exact k1
theorem RdL.by {w : World} {v : Value} {rs : List (List Nat)} (h : RdL w v rs) : ∀ r ∈ rs, By r := fun r hr => by
  obtain ⟨a, c, h1, h2⟩ := h
  obtain ⟨b, off, h3, h4⟩ := h2 (List.length_pos_of_mem hr)
  obtain ⟨j, hj⟩ := List.getElem?_of_mem hr
  obtain ⟨a', c', k1, k2, k3, _⟩ := h4 j r hj
  exact k3
theorem RdL.front {w : World} {a : Option Addr} {n c : Nat} {rs : List (List Nat)} (h : RdL w (.slice a n c) rs) {k : Nat} (hk : k ≤ rs.length) : RdL w (.slice a k c) (rs.take k) := by
  obtain ⟨a', c', h1, h2⟩ := h
  simp only [Value.slice.injEq] at h1
  obtain ⟨rfl, rfl, rfl⟩ := h1
  refine ⟨a, c, by rw [List.length_take, Nat.min_eq_left hk], fun h0 => ?_⟩
  rw [List.length_take] at h0
  obtain ⟨b, off, h3, h4⟩ := h2 (by omega)
  refine ⟨b, off, h3, fun j r hj => h4 j r ?_⟩
  rw [List.getElem?_take] at hj
  split at hj
  · exact hj
  · cases hj

/-- The elements of a list of the call's own: each can be read, and lies in a block of its own from B on. -/
def Lst (w : World) (B : Nat) (qs : List (Option Nat)) (rs : List (List Nat)) (cs : List Value) : Prop :=
  cs.length = rs.length ∧ ∀ (j : Nat) (r : List Nat), rs[j]? = some r → ∃ u, cs[j]? = some u ∧ Rd w u (bv r) ∧ By r ∧ r.length ≤ 140737488355328 ∧ ∀ k, u.ownBlock = some k → B ≤ k ∧ k < w.heap.size ∧ ∀ q ∈ qs, q ≠ some k
theorem Lst.nil (w : World) (B : Nat) (qs : List (Option Nat)) : Lst w B qs [] [] := ⟨rfl, fun j r h => by simp at h⟩
theorem Rd.step {w w' : World} {v : Value} {xs : List Value} (h : Rd w v xs) (hb : ∀ k, v.ownBlock = some k → w'.heap[k]? = w.heap[k]?) : Rd w' v xs := by
  rcases h with h | ⟨a, c, rfl, h4, h5⟩
  · exact .inl h
  · refine .inr ⟨a, c, rfl, h4, fun j u hj => ?_⟩
    rw [World.cell?_of_block (w := w) (by rw [add_block]; exact hb _ rfl)]; exact h5 j u hj
/-- Blocks from B on stay but for those of qs; those of qs' are of qs, or new. -/
theorem Lst.step {w w' : World} {B : Nat} {qs qs' : List (Option Nat)} {rs : List (List Nat)} {cs : List Value} (h : Lst w B qs rs cs) (hs : w.heap.size ≤ w'.heap.size) (hf : ∀ k, B ≤ k → k < w.heap.size → (∀ q ∈ qs, q ≠ some k) → w'.heap[k]? = w.heap[k]?) (hq : ∀ q ∈ qs', q ∈ qs ∨ ∀ k, q = some k → w.heap.size ≤ k) : Lst w' B qs' rs cs := by
  refine ⟨h.1, fun j r hj => ?_⟩
  obtain ⟨u, h1, h2, h3, h3', h4⟩ := h.2 j r hj
  refine ⟨u, h1, h2.step fun k hk => hf k (h4 k hk).1 (h4 k hk).2.1 (h4 k hk).2.2, h3, h3', fun k hk => ⟨(h4 k hk).1, by have := (h4 k hk).2.1; omega, fun q hq' e => ?_⟩⟩
  rcases hq q hq' with x | x
  · exact (h4 k hk).2.2 q x e
  · have := x k e; have := (h4 k hk).2.1; omega
theorem Lst.snoc {w : World} {B : Nat} {qs : List (Option Nat)} {rs : List (List Nat)} {cs : List Value} (h : Lst w B qs rs cs) {u : Value} {r : List Nat} (h1 : Rd w u (bv r)) (h2 : By r) (h3 : r.length ≤ 140737488355328) (h4 : ∀ k, u.ownBlock = some k → B ≤ k ∧ k < w.heap.size ∧ ∀ q ∈ qs, q ≠ some k) : Lst w B qs (rs ++ [r]) (cs ++ [u]) := by
  refine ⟨by simp [h.1], fun j r' hj => ?_⟩
  by_cases hjl : j < rs.length
  · rw [List.getElem?_append_left hjl] at hj
    obtain ⟨u', k1, k2⟩ := h.2 j r' hj
    exact ⟨u', by rw [List.getElem?_append_left (by rw [h.1]; exact hjl)]; exact k1, k2⟩
  · have hje : j = rs.length := by
      rcases Nat.lt_or_ge j (rs.length + 1) with h' | h'
      · omega
      · rw [List.getElem?_eq_none (by simp; omega)] at hj; cases hj
    subst hje
    rw [List.getElem?_append_right (Nat.le_refl _), Nat.sub_self] at hj
    simp at hj
    subst hj
    exact ⟨u, by rw [List.getElem?_append_right (by rw [h.1]; exact Nat.le_refl _), h.1, Nat.sub_self]; rfl, h1, h2, h3, h4⟩
/-- A list of the call's own. -/
def OwnL (w : World) (B : Nat) (v : Value) (rs : List (List Nat)) : Prop := ∃ cs, w.ownsRow B 35 1 v rs.length cs ∧ Lst w B [v.ownBlock] rs cs
theorem OwnL.rd {w : World} {B : Nat} {v : Value} {rs : List (List Nat)} (h : OwnL w B v rs) : RdL w v rs := by
  obtain ⟨cs, o, l⟩ := h
  rcases o.2 with ⟨rfl, h0⟩ | ⟨g, cap, cur, rfl, _, h3, h4, h5⟩
  · have : rs = [] := List.eq_nil_of_length_eq_zero h0
    subst this
    exact ⟨none, 0, rfl, fun h => by simp at h⟩
  · refine ⟨_, cap, rfl, fun _ => ⟨g, 0, rfl, fun j r hj => ?_⟩⟩
    obtain ⟨u, k1, k2, k3, k4, _⟩ := l.2 j r hj
    have := o.cells rfl j u k1
    rw [Addr.add_lit] at this
    obtain ⟨a', c', e⟩ := k2.form
    rw [bv_len] at e
    subst e
    exact ⟨a', c', this, k2, k3, k4⟩
/-- Blocks from B on stay. -/
theorem OwnL.step {w w' : World} {B : Nat} {v : Value} {rs : List (List Nat)} (h : OwnL w B v rs) (hs : w.heap.size ≤ w'.heap.size) (hf : ∀ k, B ≤ k → k < w.heap.size → w'.heap[k]? = w.heap[k]?) : OwnL w' B v rs := by
  obtain ⟨cs, o, l⟩ := h
  exact ⟨cs, ownsRow_of_block o fun k hk => hf k (o.lt k hk).1 (o.lt k hk).2, l.step hs (fun k k1 k2 _ => hf k k1 k2) (fun q hq => .inl hq)⟩
theorem OwnL.fr {w w' : World} {B : Nat} {v : Value} {rs : List (List Nat)} (h : OwnL w B v rs) (f : Fr [] w w') : OwnL w' B v rs := h.step f.size fun k _ k2 => f.block k k2 (by simp)

/-- Rows of unlike elements don't share a block. -/
theorem own_types {w : World} {B B' s s' n n' : Nat} {e e' : TypeId} {v v' : Value} {xs ys : List Value} (h : w.ownsRow B e s v n xs) (h' : w.ownsRow B' e' s' v' n' ys) (hne : e ≠ e') : ∀ k, v.ownBlock = some k → v'.ownBlock ≠ some k := by
  intro k hk hk'
  rcases h.2 with ⟨rfl, _⟩ | ⟨g, cap, cur, rfl, _, h3, _⟩
  · simp [Value.ownBlock] at hk
  · rcases h'.2 with ⟨rfl, _⟩ | ⟨g', cap', cur', rfl, _, h3', _⟩
    · simp [Value.ownBlock] at hk'
    · simp [Value.ownBlock] at hk hk'
      subst hk; subst hk'
      rw [h3] at h3'
      simp at h3'
      exact hne h3'.2

/-- append(own, x) for a slice of bytes. -/
theorem wpList_append_row {w : World} {ops : Array Oper} {rest : List Oper} {o : Oper} {a : Act} {Q : Exit → Act → World → Prop} (hgd : o.guard = none) (s x : Operand)
    (ho : o.op = .call { callee := .builtin .append, args := #[s, x], argTypes := #[101, 101] }) (base : Nat) (hbase : base ≤ w.heap.size) (v : Value) (n : Nat) (xs : List Value) (hs : a.eval s = v) (hown : w.ownsRow base 35 1 v n xs) (G : Nat) (hx : a.eval x = .slice (some ⟨G, 0, none⟩) 1 1) {u : Value} {T : TypeId} (hG : w.heap[G]? = some (.cells #[u] T (0, 0)))
    (hu : u.oneCell' = true) (hl : n ≤ 100000000000)
    (h : ∀ v' w', w'.ownsRow base 35 1 v' (n + 1) (xs ++ [u]) → w.grownBy w' v.ownBlock → (v'.ownBlock = v.ownBlock ∨ v'.ownBlock = some w.heap.size) → wpList Try.prog ops Q rest (a.put o.dst v') w') :
    wpList Try.prog ops Q (o :: rest) a w := by
  obtain ⟨i0, hi, hz0, hz1, hz2⟩ := info_parts infoR
  refine wpList_append_own_at w hgd s x 101 ho base 35 i0 _ 1 24 Try.underlying101 hi hz0 hz1 hz2 rfl (by decide) v n xs hs hown ⟨G, 0, none⟩ 1 1 [u] hx rfl ?_ ?_ (by unfold maxLen; omega) (by omega) hbase fun v' w' h1 h2 _ h3 => h v' w' h1 h2 h3
  · intro j u' hj
    rw [Addr.add_lit, Nat.zero_add, blk_cell hG, ← Array.getElem?_toList]
    exact hj
  · intro u' hu'
    simp at hu'
    subst hu'; exact hu
end Go.Proofs.Ythmlpjogbdpgiaa
