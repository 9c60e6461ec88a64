/-
  A disk with two files, and what an Append leaves of it.
-/
import Derived.Test.YtiiielhhddfdpabM
namespace Go.Proofs.Ytiiielhhddfdpab
open Go.ChangeShapes Go.WideShapes Go.ChangeAt Go.RowKit

theorem Rd.fr {w w' : World} {v : Value} {xs : List Value} (h : Rd w v xs) (hf : Fr [] w w') : Rd w' v xs := by
  rcases h with h | ⟨a, c, rfl, h4, h5⟩
  · exact .inl h
  · refine .inr ⟨a, c, rfl, h4, fun j u hj => ?_⟩
    have h6 := h5 j u hj
    rw [World.cell?_of_block (w := w) (hf.block _ (World.block_lt_of_cell? w _ h6) (by simp))]; exact h6
theorem add_block (a : Addr) (j : Nat) : (a.add j).block = a.block := by unfold Addr.add; split <;> rfl
theorem Rd.lt {w : World} {a : Addr} {n c : Nat} {xs : List Value} (h : Rd w (.slice (some a) n c) xs) (hx : 0 < xs.length) : a.block < w.heap.size := by
  rcases h with ⟨h, _⟩ | ⟨a', c', h, _, h5⟩
  · cases h
  · cases h
    have := World.block_lt_of_cell? w _ (h5 0 xs[0] (by simp [hx]))
    rwa [add_block] at this

/-- A file of a disk that was made behind w0: how many bytes are seen, that its rows are its own. -/
def Fil (w0 w : World) (fb : Nat) (num : Int) (len : Nat) (pn : Nat) (sb pb : Option Nat) : Prop :=
  ∃ sv uv fpv seen ps, FB w fb num sv uv fpv ∧ w.ownsRow 0 5 1 sv (seen : List Value).length seen ∧ w.ownsRow 0 67 1 fpv (ps : List Value).length ps ∧ seen.length = len ∧ ps.length ≤ pn ∧ sv.ownBlock = sb ∧ fpv.ownBlock = pb ∧
    (∀ k, sb = some k → w0.heap.size ≤ k) ∧ (∀ k, pb = some k → w0.heap.size ≤ k) ∧ w0.heap.size ≤ fb

theorem Fil.keep {w0 w w' : World} {S : List Nat} {fb : Nat} {num : Int} {len pn pn' : Nat} {sb pb : Option Nat} (h : Fil w0 w fb num len pn sb pb) (hf : Fr S w w') (h1 : fb ∉ S) (h2 : ∀ k, sb = some k → k ∉ S) (h3 : ∀ k, pb = some k → k ∉ S) (hp : pn ≤ pn') :
    Fil w0 w' fb num len pn' sb pb := by
  obtain ⟨sv, uv, fpv, seen, ps, a1, a2, a3, a4, a5, a6, a7, a8⟩ := h
  exact ⟨sv, uv, fpv, seen, ps, hf.at a1 h1, ownsRow_of_block a2 fun k hk => hf.block k (a2.lt k hk).2 (h2 k (a6 ▸ hk)), ownsRow_of_block a3 fun k hk => hf.block k (a3.lt k hk).2 (h3 k (a7 ▸ hk)), a4, by omega, a6, a7, a8⟩

theorem Fil.lt {w0 w : World} {fb : Nat} {num : Int} {len pn : Nat} {sb pb : Option Nat} (h : Fil w0 w fb num len pn sb pb) : (∀ k, sb = some k → k < w.heap.size) ∧ (∀ k, pb = some k → k < w.heap.size) := by
  obtain ⟨sv, uv, fpv, seen, ps, a1, a2, a3, a4, a5, rfl, rfl, _⟩ := h
  exact ⟨fun k hk => (a2.lt k hk).2, fun k hk => (a3.lt k hk).2⟩

/-- No row of a file lies in a block of the disk or of the map. -/
theorem Fil.ne {w0 w : World} {fb : Nat} {num : Int} {len pn : Nat} {sb pb : Option Nat} (h : Fil w0 w fb num len pn sb pb) {k : Nat} {o : Obj} (hk : w.heap[k]? = some o) (h1 : ∀ cs, o ≠ .cells cs 55 (0, 0)) (h2 : ∀ cs, o ≠ .cells cs 5 (0, 0)) (h3 : ∀ cs, o ≠ .cells cs 67 (0, 0)) :
    fb ≠ k ∧ sb ≠ some k ∧ pb ≠ some k := by
  obtain ⟨sv, uv, fpv, seen, ps, a1, a2, a3, a4, a5, rfl, rfl, _⟩ := h
  refine ⟨fun e => ?_, fun e => ?_, fun e => ?_⟩
  · subst e; unfold FB at a1; rw [hk] at a1; cases a1; exact h1 _ rfl
  · rcases a2.2 with ⟨e2, _⟩ | ⟨g, cap, cu, e2, _, e3, _⟩
    · rw [e2] at e; simp [Value.ownBlock] at e
    · rw [e2] at e; simp only [Value.ownBlock, Option.some.injEq] at e; subst e; rw [hk] at e3; cases e3; exact h2 _ rfl
  · rcases a3.2 with ⟨e2, _⟩ | ⟨g, cap, cu, e2, _, e3, _⟩
    · rw [e2] at e; simp [Value.ownBlock] at e
    · rw [e2] at e; simp only [Value.ownBlock, Option.some.injEq] at e; subst e; rw [hk] at e3; cases e3; exact h3 _ rfl

/-- Two files, a disk: nothing of the one lies in the other. -/
def Two (w0 w : World) (b m0 m1 : Nat) (cap used cnt : Int) (es : Array MapEntry) (clk : Nat) (f g : Nat) (nf ng : Int) (pn : Nat) : Prop :=
  ∃ pv lf lg sf pf sg pg, DB w b cap m0 m1 pv used 2 cnt 0 (-1) false ∧ w.heap[m0]? = some (.map es clk) ∧ Fil w0 w f nf lf pn sf pf ∧ Fil w0 w g ng lg pn sg pg ∧ used = lf + lg ∧ f ≠ g ∧ (∀ k, sf = some k → sg ≠ some k) ∧ (∀ k, pf = some k → pg ≠ some k) ∧
    Fr [] w0 w ∧ w0.heap.size ≤ b

theorem Two.swap {w0 w : World} {b m0 m1 : Nat} {cap used cnt : Int} {es : Array MapEntry} {clk f g : Nat} {nf ng : Int} {pn : Nat} (h : Two w0 w b m0 m1 cap used cnt es clk f g nf ng pn) : Two w0 w b m0 m1 cap used cnt es clk g f ng nf pn := by
  obtain ⟨pv, lf, lg, sf, pf, sg, pg, a1, a2, a3, a4, a5, a6, a7, a8, a9, a10⟩ := h
  exact ⟨pv, lg, lf, sg, pg, sf, pf, a1, a2, a4, a3, by omega, Ne.symm a6, fun k h1 h2 => a7 k h2 h1, fun k h1 h2 => a8 k h2 h1, a9, a10⟩

/-- An Append that did nothing. -/
theorem Two.idle {w0 w w' : World} {b m0 m1 : Nat} {cap used cnt : Int} {es : Array MapEntry} {clk f g : Nat} {nf ng : Int} {pn : Nat} {pv : Value} (h : Two w0 w b m0 m1 cap used cnt es clk f g nf ng pn) (hd0 : DB w b cap m0 m1 pv used 2 cnt 0 (-1) false)
    (hd : DB w' b cap m0 m1 pv used 2 (cnt + 1) 0 (-1) false) (hf : Fr [b] w w') : Two w0 w' b m0 m1 cap used (cnt + 1) es clk f g nf ng (pn + 1) := by
  obtain ⟨_, lf, lg, sf, pf, sg, pg, _, a2, a3, a4, a5, a6, a7, a8, a9, a10⟩ := h
  have n3 := a3.ne hd0 (by simp) (by simp) (by simp)
  have n4 := a4.ne hd0 (by simp) (by simp) (by simp)
  refine ⟨pv, lf, lg, sf, pf, sg, pg, hd, hf.at a2 (by simp; exact notin_types a2 hd0 (by simp)), ?_, ?_, a5, a6, a7, a8, a9.trans' hf (by intro x hx hlt; simp at hx; omega), a10⟩
  · exact a3.keep hf (by simp [n3.1]) (fun k hk e => by simp at e; subst e; exact n3.2.1 hk) (fun k hk e => by simp at e; subst e; exact n3.2.2 hk) (by omega)
  · exact a4.keep hf (by simp [n4.1]) (fun k hk e => by simp at e; subst e; exact n4.2.1 hk) (fun k hk e => by simp at e; subst e; exact n4.2.2 hk) (by omega)

/-- An Append to the first file. -/
theorem Two.app {w0 w w' : World} {b m0 m1 : Nat} {cap used cnt : Int} {es : Array MapEntry} {clk f g : Nat} {nf ng : Int} {pn lf lg : Nat} {pv : Value} {sg pg : Option Nat} {sv uv fpv v' pv' bv' : Value} {olds xs ps : List Value}
    (a1 : DB w b cap m0 m1 pv used 2 cnt 0 (-1) false) (a2 : w.heap[m0]? = some (.map es clk)) (b1 : FB w f nf sv uv fpv) (b2 : w.ownsRow 0 5 1 sv olds.length olds) (b3 : w.ownsRow 0 67 1 fpv ps.length ps) (b4 : olds.length = lf) (b5 : ps.length ≤ pn)
    (b6 : ∀ k, sv.ownBlock = some k → w0.heap.size ≤ k) (b7 : ∀ k, fpv.ownBlock = some k → w0.heap.size ≤ k) (b8 : w0.heap.size ≤ f)
    (a4 : Fil w0 w g ng lg pn sg pg) (a5 : used = lf + lg) (a6 : f ≠ g) (a7 : ∀ k, sv.ownBlock = some k → sg ≠ some k) (a8 : ∀ k, fpv.ownBlock = some k → pg ≠ some k) (a9 : Fr [] w0 w) (a10 : w0.heap.size ≤ b)
    (c : FB w' f nf v' uv pv' ∧ w'.ownsRow 0 5 1 v' (olds ++ xs).length (olds ++ xs) ∧ w'.ownsRow 0 67 1 pv' (ps ++ [wrt f olds.length bv']).length (ps ++ [wrt f olds.length bv']) ∧ w'.ownsRow w.heap.size 5 1 bv' xs.length xs ∧
      DB w' b cap m0 m1 pv (used + xs.length) 2 (cnt + 1) 0 (-1) false ∧ Fr (b :: f :: (sv.ownBlock.toList ++ fpv.ownBlock.toList)) w w' ∧
      (v'.ownBlock = sv.ownBlock ∨ ∃ k, v'.ownBlock = some k ∧ w.heap.size ≤ k) ∧ (pv'.ownBlock = fpv.ownBlock ∨ ∃ k, pv'.ownBlock = some k ∧ w.heap.size ≤ k) ∧ (∀ k, bv'.ownBlock = some k → v'.ownBlock ≠ some k)) :
    Two w0 w' b m0 m1 cap (used + xs.length) (cnt + 1) es clk f g nf ng (pn + 1) := by
  obtain ⟨c1, c2, c3, _, c5, c6, c7, c8, _⟩ := c
  have hsz := a9.size
  have n4 := a4.ne a1 (by simp) (by simp) (by simp)
  have l4 := a4.lt
  have key : ∀ k, k ≠ b → k ≠ f → sv.ownBlock ≠ some k → fpv.ownBlock ≠ some k → k ∉ b :: f :: (sv.ownBlock.toList ++ fpv.ownBlock.toList) := fun k h1 h2 h3 h4 e => by
    simp only [List.mem_cons, List.mem_append, Option.mem_toList] at e
    rcases e with e | e | e | e
    · exact h1 e
    · exact h2 e
    · exact h3 e
    · exact h4 e
  have nv : ∀ k o, w.heap[k]? = some o → (∀ cs, o ≠ .cells cs 5 (0, 0)) → sv.ownBlock ≠ some k := fun k o hk hno e => by
    rcases b2.2 with ⟨e2, _⟩ | ⟨q, cap, cu, e2, _, e3, _⟩
    · rw [e2] at e; simp [Value.ownBlock] at e
    · rw [e2] at e; simp only [Value.ownBlock, Option.some.injEq] at e; subst e; rw [hk] at e3; cases e3; exact hno _ rfl
  have np : ∀ k o, w.heap[k]? = some o → (∀ cs, o ≠ .cells cs 67 (0, 0)) → fpv.ownBlock ≠ some k := fun k o hk hno e => by
    rcases b3.2 with ⟨e2, _⟩ | ⟨q, cap, cu, e2, _, e3, _⟩
    · rw [e2] at e; simp [Value.ownBlock] at e
    · rw [e2] at e; simp only [Value.ownBlock, Option.some.injEq] at e; subst e; rw [hk] at e3; cases e3; exact hno _ rfl
  obtain ⟨sv2, uv2, fpv2, seen2, ps2, q1, q2, q3, q4, q5, q6, q7, q8⟩ := a4
  have kg : g ∉ b :: f :: (sv.ownBlock.toList ++ fpv.ownBlock.toList) := key g n4.1 (Ne.symm a6) (nv g _ q1 (by simp)) (np g _ q1 (by simp))
  refine ⟨pv, (olds ++ xs).length, lg, v'.ownBlock, pv'.ownBlock, sg, pg, c5, c6.at a2 (key m0 (notin_types a2 a1 (by simp)) ?_ (nv m0 _ a2 (by simp)) (np m0 _ a2 (by simp))), ?_, ?_, ?_, a6, ?_, ?_, ?_, a10⟩
  · intro e; subst e; unfold FB at b1; rw [a2] at b1; cases b1
  · refine ⟨v', uv, pv', olds ++ xs, _, c1, c2, c3, rfl, by simp; omega, rfl, rfl, ?_, ?_, b8⟩
    · intro k hk
      rcases c7 with h | ⟨k', h, h2⟩
      · exact b6 k (h ▸ hk)
      · rw [h] at hk; cases hk; omega
    · intro k hk
      rcases c8 with h | ⟨k', h, h2⟩
      · exact b7 k (h ▸ hk)
      · rw [h] at hk; cases hk; omega
  · refine ⟨sv2, uv2, fpv2, seen2, ps2, c6.at q1 kg, ownsRow_of_block q2 fun k hk => c6.block k (q2.lt k hk).2 ?_, ownsRow_of_block q3 fun k hk => c6.block k (q3.lt k hk).2 ?_, q4, by omega, q6, q7, q8⟩
    · refine key k (fun e => ?_) (fun e => ?_) (fun e => a7 k e (q6 ▸ hk)) (fun e => ownsRow_apart q2 b3 (by decide) hk e)
      · subst e; exact ownsRow_ne q2 a1 (by decide) hk
      · subst e; exact ownsRow_ne q2 b1 (by decide) hk
    · refine key k (fun e => ?_) (fun e => ?_) (fun e => ownsRow_apart q3 b2 (by decide) hk e) (fun e => a8 k e (q7 ▸ hk))
      · subst e; exact ownsRow_ne q3 a1 (by decide) hk
      · subst e; exact ownsRow_ne q3 b1 (by decide) hk
  · rw [List.length_append]; omega
  · intro k hk e
    rcases c7 with h | ⟨k', h, h2⟩
    · exact a7 k (h ▸ hk) e
    · rw [h] at hk; cases hk; have := l4.1 k e; omega
  · intro k hk e
    rcases c8 with h | ⟨k', h, h2⟩
    · exact a8 k (h ▸ hk) e
    · rw [h] at hk; cases hk; have := l4.2 k e; omega
  · refine a9.trans' c6 fun x hx hlt => ?_
    simp only [List.mem_cons, List.mem_append, Option.mem_toList] at hx
    rcases hx with e | e | e | e
    · omega
    · omega
    · have := b6 x e; omega
    · have := b7 x e; omega
end Go.Proofs.Ytiiielhhddfdpab
