/-
  Tables added to lists of the call's own, and sorted there.
-/
import Derived.Test.YtegbngbhmgbocaaGreatDoorVI
namespace Go.Proofs.YtegbngbhmgbocaaGreatDoor
open Go.ChangeShapes Go.WideShapes Go.ChangeAt Go.RowKit

/-- Tables added, each to its level. -/
def addS (Z : Nat → List Fx) (qs : List (Nat × Fx)) : Nat → List Fx := qs.foldl (fun Y p => upA Y p.1 (Y p.1 ++ [p.2])) Z
theorem addS_snoc (Z : Nat → List Fx) (qs : List (Nat × Fx)) (p : Nat × Fx) : addS Z (qs ++ [p]) = upA (addS Z qs) p.1 (addS Z qs p.1 ++ [p.2]) := by
  unfold addS; rw [List.foldl_append]; rfl
theorem addS_take (Z : Nat → List Fx) {qs : List (Nat × Fx)} {k : Nat} {p : Nat × Fx} (h : qs[k]? = some p) : addS Z (qs.take (k + 1)) = upA (addS Z (qs.take k)) p.1 (addS Z (qs.take k) p.1 ++ [p.2]) := by
  rw [List.take_add_one, h]; exact addS_snoc _ _ _
theorem addS_eq : ∀ (qs : List (Nat × Fx)) (Z : Nat → List Fx) (i : Nat), addS Z qs i = Z i ++ (qs.filter (fun p => p.1 == i)).map Prod.snd
  | [], Z, i => by simp [addS]
  | p :: r, Z, i => by
    have h := addS_eq r (upA Z p.1 (Z p.1 ++ [p.2])) i
    show addS (upA Z p.1 (Z p.1 ++ [p.2])) r i = _
    rw [h]
    by_cases e : p.1 = i
    · subst e
      rw [upA_same, List.filter_cons_of_pos (by simp)]
      simp
    · rw [upA_ne _ _ (Ne.symm e), List.filter_cons_of_neg (by simpa using e)]
theorem addS_len (Z : Nat → List Fx) (qs : List (Nat × Fx)) (i : Nat) : (addS Z qs i).length ≤ (Z i).length + qs.length := by
  rw [addS_eq, List.length_append, List.length_map]
  have := List.length_filter_le (fun p => p.1 == i) qs
  omega
theorem addS_mem {Z : Nat → List Fx} {qs : List (Nat × Fx)} {i : Nat} {x : Fx} (h : x ∈ addS Z qs i) : x ∈ Z i ∨ ∃ p ∈ qs, p.2 = x := by
  rw [addS_eq, List.mem_append] at h
  rcases h with h | h
  · exact .inl h
  · obtain ⟨p, hp, e⟩ := List.mem_map.1 h
    exact .inr ⟨p, (List.mem_filter.1 hp).1, e⟩
/-- The tables of own lists are there to be read. -/
theorem LvS.vat {wb W : World} {K : Nat} {X : Nat → List Fx} {ad : Nat → Option Addr} {ln cp : Nat → Nat} (h : LvS wb W K X ad ln cp) (hx : ∀ i, i < 5 → ∀ x ∈ X i, RX wb x) (hl : ∀ i, i < 5 → (X i).length ≤ 1000000) : VAt W (fun i => (X i).map Fx.f) ad ln cp := by
  refine ⟨fun i hi => by rw [h.len i hi, List.length_map], fun i hi => by rw [h.len i hi]; have := hl i hi; omega, fun i hi h0 => ?_⟩
  rcases (h.own i hi).2 with ⟨h1, h2⟩ | ⟨g, cap, cur, h1, h2, h3, h4, h5, h6, h7⟩
  · have := h.len i hi; omega
  · simp only [Value.slice.injEq] at h1
    obtain ⟨e1, _, e3⟩ := h1
    refine ⟨g, 0, e1, fun j f hj => ?_⟩
    rw [List.getElem?_map] at hj
    cases hxj : (X i)[j]? with
    | none => rw [hxj] at hj; cases hj
    | some x =>
      rw [hxj] at hj
      simp at hj
      subst hj
      have hx1 := (hx i hi x (List.mem_of_getElem? hxj)).1.fr h.fr
      have hjl : j < (X i).length := (List.getElem?_eq_some_iff.1 hxj).1
      have cell : ∀ c, c < 4 → W.cell? ⟨g, 0 + j * 4 + c, none⟩ = (encX x)[c]? := fun c hc => by
        rw [blk_cell h3, ← Array.getElem?_toList]
        have e2 := flat4_at (X i) (j * 4 + c) x (by rw [show (j * 4 + c) / 4 = j from by omega]; exact hxj)
        rw [← h7, List.getElem?_take, if_pos (by omega), show (j * 4 + c) % 4 = c from by omega] at e2
        rw [show 0 + j * 4 + c = j * 4 + c from by omega]
        exact e2
      exact ⟨x.la, x.lc, x.ma, x.mc, by have := cell 0 (by omega); simpa [encX] using this, by have := cell 1 (by omega); simpa [encX] using this, by have := cell 2 (by omega); simpa [encX] using this, by have := cell 3 (by omega); simpa [encX] using this, hx1⟩
/-- One of the lists is put in another order. -/
theorem LvS.sorted {wb W W' : World} {K : Nat} {X : Nat → List Fx} {ad : Nat → Option Addr} {ln cp : Nat → Nat} (h : LvS wb W K X ad ln cp) {i : Nat} (hi : i < 5) {ys : List Fx} (hp : ys.length = (X i).length) (o : W'.ownsRow wb.heap.size 62 4 (.slice (ad i) (ln i) (cp i)) ys.length (ys.flatMap encX)) (g : W.grownBy W' (Value.slice (ad i) (ln i) (cp i)).ownBlock) (f : Fr [] wb W') : LvS wb W' K (upA X i ys) ad ln cp := by
  refine ⟨?_, ?_, ?_, h.apart, f, h.ge⟩
  · rw [g.block K (blk_lt h.blk) (fun e => own_not (h.own i hi) h.blk (by decide) e.symm)]; exact h.blk
  · intro k hk
    by_cases e : k = i
    · subst e; rw [upA_same, hp]; exact h.len k hk
    · rw [upA_ne _ _ e]; exact h.len k hk
  · intro k hk
    by_cases e : k = i
    · subst e; rw [upA_same]; exact o
    · rw [upA_ne _ _ e]
      refine ownsRow_of_block (h.own k hk) fun b hb => ?_
      refine g.block b ?_ (fun e2 => h.apart i k hi hk (fun e3 => e e3.symm) b e2.symm hb)
      rcases (h.own k hk).2 with ⟨h1, _⟩ | ⟨g', cap, cur, h1, h2, h3, _⟩
      · rw [h1] at hb; simp [Value.ownBlock] at hb
      · rw [h1] at hb; simp [Value.ownBlock] at hb; subst hb; exact blk_lt h3
/-- The lists in another block. -/
theorem LvS.moved {wb W W' : World} {K K' : Nat} {X : Nat → List Fx} {ad : Nat → Option Addr} {ln cp : Nat → Nat} (h : LvS wb W K X ad ln cp) (f : Fr [] W W') (hb : W'.heap[K']? = some (.cells (five ad ln cp) 26 (0, 0))) (hk : wb.heap.size ≤ K') : LvS wb W' K' X ad ln cp :=
  ⟨hb, h.len, fun i hi => ownsRow_fr (h.own i hi) f, h.apart, h.fr.trans f, hk⟩
/-- Placed tables in memory, with the places of their keys. -/
def RXA (w : World) (aa : Option Addr) (al : Nat) (qs : List (Nat × Fx)) : Prop := al = qs.length ∧ (0 < al → ∃ b off, aa = some ⟨b, off, none⟩ ∧ ∀ (j : Nat) (p : Nat × Fx), qs[j]? = some p → w.cell? ⟨b, off + j * 5, none⟩ = some (.int .i64 (p.1 : Int)) ∧ FAt w b (off + j * 5 + 1) p.2.f p.2.la p.2.lc p.2.ma p.2.mc)
theorem RXA.fr {w w' : World} {aa : Option Addr} {al : Nat} {qs : List (Nat × Fx)} (h : RXA w aa al qs) (f : Fr [] w w') : RXA w' aa al qs := by
  refine ⟨h.1, fun h0 => ?_⟩
  obtain ⟨b, off, e, k⟩ := h.2 h0
  exact ⟨b, off, e, fun j p hp => ⟨cell_fr f (k j p hp).1, (k j p hp).2.fr f⟩⟩
theorem RdA.rx {w : World} {aa : Option Addr} {al ac : Nat} {ps : List (Int × Fl)} (hal : al = ps.length) (h : RdA w (.slice aa al ac) ps) (ok : ps.all okA = true) : ∃ qs : List (Nat × Fx), qs.map (fun p => ((p.1 : Int), p.2.f)) = ps ∧ RXA w aa al qs ∧ ∀ p ∈ qs, p.1 < 5 := by
  obtain ⟨a, c, e, k⟩ := h
  simp only [Value.slice.injEq] at e
  obtain ⟨rfl, _, _⟩ := e
  have ch : ∀ (l : List (Int × Fl)) (P : Nat → Int → Fx → Prop) (n : Nat), (∀ j q, l[j]? = some q → ∃ x : Fx, x.f = q.2 ∧ P (n + j) q.1 x) → (∀ q ∈ l, okA q = true) → ∃ qs : List (Nat × Fx), qs.map (fun p => ((p.1 : Int), p.2.f)) = l ∧ (∀ j p, qs[j]? = some p → P (n + j) (p.1 : Int) p.2) ∧ ∀ p ∈ qs, p.1 < 5 := by
    intro l P
    induction l with
    | nil => intro n _ _; exact ⟨[], rfl, by simp, by simp⟩
    | cons q l ih =>
      intro n h1 h2
      obtain ⟨qs, b1, b2, b3⟩ := ih (n + 1) (fun j q' hq' => by
        obtain ⟨x, c1, c2⟩ := h1 (j + 1) q' (by simpa using hq')
        exact ⟨x, c1, by rw [show n + 1 + j = n + (j + 1) from by omega]; exact c2⟩) (fun q' hq' => h2 q' (by simp [hq']))
      obtain ⟨x, c1, c2⟩ := h1 0 q rfl
      have hv : okV q.1 = true := by have := h2 q (by simp); unfold okA at this; exact (Bool.and_eq_true _ _ ▸ this).1
      have hv2 := okV_iff.1 hv
      have hn : ((q.1.toNat : Nat) : Int) = q.1 := by omega
      refine ⟨(q.1.toNat, x) :: qs, ?_, ?_, ?_⟩
      · rw [List.map_cons, b1]
        simp only [hn, c1]
      · intro j p hp
        cases j with
        | zero => simp at hp; subst hp; simp only [hn]; exact c2
        | succ j => rw [show n + (j + 1) = n + 1 + j from by omega]; exact b2 j p (by simpa using hp)
      · intro p hp
        rcases List.mem_cons.1 hp with rfl | hp
        · simp only; omega
        · exact b3 p hp
  rcases Nat.eq_zero_or_pos al with h0 | h0
  · have : ps = [] := List.eq_nil_of_length_eq_zero (by omega)
    subst this
    exact ⟨[], rfl, ⟨by simpa using hal, fun h => by omega⟩, by simp⟩
  · obtain ⟨b, off, ea, m⟩ := k (by omega)
    obtain ⟨qs, b1, b2, b3⟩ := ch ps (fun j l x => w.cell? ⟨b, off + j * 5, none⟩ = some (.int .i64 l) ∧ FAt w b (off + j * 5 + 1) x.f x.la x.lc x.ma x.mc) 0 (fun j q hq => by
      obtain ⟨m1, la, lc, ma, mc, m2⟩ := m j q hq
      exact ⟨⟨q.2, la, lc, ma, mc⟩, rfl, by rw [Nat.zero_add]; exact m1, by rw [Nat.zero_add]; exact m2⟩) (fun q hq => List.all_eq_true.1 ok q hq)
    refine ⟨qs, b1, ⟨by rw [hal, ← b1, List.length_map], fun _ => ⟨b, off, ea, fun j p hp => ?_⟩⟩, b3⟩
    have := b2 j p hp
    rw [Nat.zero_add] at this
    exact this
end Go.Proofs.YtegbngbhmgbocaaGreatDoor
