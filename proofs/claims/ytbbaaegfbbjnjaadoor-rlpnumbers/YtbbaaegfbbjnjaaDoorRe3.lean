/-
  What the closure in First of package rlp answers for lists.
-/
import Derived.Test.YtbbaaegfbbjnjaaDoorRe2
namespace Go.Proofs.YtbbaaegfbbjnjaaDoor
open Go.ChangeShapes Go.WideShapes Go.ChangeAt Go.RowKit

theorem infoI : (Tryd.prog.info? 44).map (fun i => (i.zero, i.size, i.bytes)) = some (some (.agg #[.bool false, .slice none 0 0, .slice none 0 0]), 3, 56) := by kernel_rfl
/-- append(own, x) for an item. -/
theorem wpList_append_item {w : World} {ops : Array Oper} {rest : List Oper} {o : Oper} {a : Act} {Q : Exit → Act → World → Prop} (hgd : o.guard = none) (s x : Operand)
    (ho : o.op = .call { callee := .builtin .append, args := #[s, x], argTypes := #[42, 42] }) (base : Nat) (hbase : base ≤ w.heap.size) (v : Value) (n : Nat) (xs : List Value) (hs : a.eval s = v) (hown : w.ownsRow base 44 3 v n xs) (G : Nat) (hx : a.eval x = .slice (some ⟨G, 0, none⟩) 1 1) {l : Bool} {a1 a2 : Option Addr} {n1 c1 n2 c2 : Nat} {T : TypeId} (hG : w.heap[G]? = some (.cells #[.bool l, .slice a1 n1 c1, .slice a2 n2 c2] T (0, 0)))
    (hl : n ≤ 200000)
    (h : ∀ v' w', w'.ownsRow base 44 3 v' (n + 1) (xs ++ [.bool l, .slice a1 n1 c1, .slice a2 n2 c2]) → w.grownBy w' v.ownBlock → (v'.ownBlock = v.ownBlock ∨ v'.ownBlock = some w.heap.size) → wpList Tryd.prog ops Q rest (a.put o.dst v') w') :
    wpList Tryd.prog ops Q (o :: rest) a w := by
  obtain ⟨i0, hi, hz0, hz1, hz2⟩ := info_parts infoI
  refine wpList_append_own_at w hgd s x 42 ho base 44 i0 _ 3 56 Tryd.underlying42 hi hz0 hz1 hz2 rfl (by decide) v n xs hs hown ⟨G, 0, none⟩ 1 1 [.bool l, .slice a1 n1 c1, .slice a2 n2 c2] hx rfl ?_ ?_ (by unfold maxLen; omega) (by omega) hbase fun v' w' h1 h2 _ h3 => h v' w' h1 h2 h3
  · intro j u hj
    rw [Addr.add_lit, Nat.zero_add, blk_cell hG, ← Array.getElem?_toList]
    exact hj
  · intro u hu
    simp at hu
    rcases hu with rfl | rfl | rfl <;> rfl

theorem itemsR_step {α : Type} {f : List Nat → Nat → Except Nat (α × Nat × Nat)} {g' c' : Nat} {p : List Nat} (hp : p ≠ []) (hg : p.length ≤ g') : ∃ g1, g' = g1 + 1 ∧ itemsR f g' p c' = match f p c' with
    | .error e => .error e
    | .ok (t, k, c1) => match itemsR f g1 (p.drop k) c1 with
      | .error e => .error e
      | .ok (ts, c2) => .ok (t :: ts, c2) := by
  rcases p with _ | ⟨x, r⟩
  · exact absurd rfl hp
  · simp at hg
    exact ⟨g' - 1, by omega, by obtain ⟨g1, rfl⟩ : ∃ g1, g' = g1 + 1 := ⟨g' - 1, by omega⟩; rfl⟩
/-- What was read ahead of what is still to be read. -/
def ahead {α : Type} (ts : List α) : Except Nat (List α × Nat) → Except Nat (List α × Nat)
  | .error e => .error e
  | .ok (us, c) => .ok (ts ++ us, c)
theorem ahead_err {α : Type} {f : List Nat → Nat → Except Nat (α × Nat × Nat)} {g' c' e : Nat} {p : List Nat} {ts : List α} (hp : p ≠ []) (hg : p.length ≤ g') (h : f p c' = .error e) : ahead ts (itemsR f g' p c') = .error e := by
  obtain ⟨g1, _, h1⟩ := itemsR_step (f := f) (c' := c') hp hg
  rw [h1, h]; rfl
theorem ahead_ok {α : Type} {f : List Nat → Nat → Except Nat (α × Nat × Nat)} {g' c' k c1 : Nat} {t : α} {p : List Nat} {ts : List α} (hp : p ≠ []) (hg : p.length ≤ g') (h : f p c' = .ok (t, k, c1)) : ∃ g1, g' = g1 + 1 ∧ ahead ts (itemsR f g' p c') = ahead (ts ++ [t]) (itemsR f g1 (p.drop k) c1) := by
  obtain ⟨g1, e1, h1⟩ := itemsR_step (f := f) (c' := c') hp hg
  refine ⟨g1, e1, ?_⟩
  rw [h1, h]
  simp only
  rcases itemsR f g1 (p.drop k) c1 with e | ⟨us, c2⟩
  · rfl
  · show Except.ok _ = Except.ok _
    rw [List.append_assoc]; rfl
theorem rdT_err : ∀ (n : Nat) (b : List Nat) (c e : Nat), By b → b ≠ [] → c ≤ 4096 → n ≤ 16 → rdT n b c = .error e → e = 40 ∨ e = 41 ∨ e = 43 := by
  intro n
  induction n with
  | zero => intro b c e _ _ _ _ h; cases h; simp
  | succ n ih =>
    intro b c e hb h0 hc hn h
    unfold rdT at h
    split at h
    · cases h; simp
    · rcases hh : hdr b with x | ⟨l, s, en⟩
      · rw [hh] at h
        cases h
        unfold hdr at hh
        have hF : ∀ l s m, hdrF b l s m = .error e → e = 40 ∨ e = 41 ∨ e = 43 := by
          intro l s m h
          unfold hdrF at h
          split at h
          · cases h; simp
          · split at h
            · cases h; simp
            · cases h
        have hM : ∀ l m, hdrM b l m = .error e → e = 40 ∨ e = 41 ∨ e = 43 := by
          intro l m h
          unfold hdrM at h
          split at h
          · exact hF _ _ _ h
          · split at h
            · cases h; simp
            · split at h
              · cases h; simp
              · exact hF _ _ _ h
        split at hh
        · cases hh
        · split at hh <;> exact hM _ _ hh
      · rw [hh] at h
        simp only at h
        split at h
        · have hI : ∀ (g : Nat) (p : List Nat) (c1 : Nat), By p → c1 ≤ 4096 → p.length ≤ g → itemsR (rdT n) g p c1 = .error e → e = 40 ∨ e = 41 ∨ e = 43 := by
            intro g
            induction g with
            | zero =>
              intro p c1 _ _ hl h
              have : p = [] := List.eq_nil_of_length_eq_zero (by omega)
              subst this; cases h
            | succ g ihg =>
              intro p c1 hp hc1 hl h
              rcases p with _ | ⟨x, r⟩
              · cases h
              · unfold itemsR at h
                rcases h1 : rdT n (x :: r) c1 with y | ⟨t, k, c2⟩
                · rw [h1] at h; cases h; exact ih _ _ _ hp (by simp) hc1 (by omega) h1
                · rw [h1] at h
                  simp only at h
                  obtain ⟨_, _, k1, k2, _, k4, _⟩ := rdT_inv n _ c1 t k c2 (by omega) hp (by simp) hc1 h1
                  rcases h2 : itemsR (rdT n) g ((x :: r).drop k) c2 with y | ⟨us, c3⟩
                  · rw [h2] at h; cases h; exact ihg _ _ (hp.drop k) k4 (by rw [List.length_drop]; simp at hl k2 ⊢; omega) h2
                  · rw [h2] at h; cases h
          rcases h1 : itemsR (rdT n) (en - s) ((b.take en).drop s) (c + 1) with y | ⟨us, c3⟩
          · rw [h1] at h; cases h
            obtain ⟨p1, p2, p3, _⟩ := hdr_ok hb hh h0
            exact hI _ _ _ ((hb.take en).drop s) (by omega) (by rw [mid_len b p3]; exact Nat.le_refl _) h1
          · rw [h1] at h; cases h
        · cases h
end Go.Proofs.YtbbaaegfbbjnjaaDoor
