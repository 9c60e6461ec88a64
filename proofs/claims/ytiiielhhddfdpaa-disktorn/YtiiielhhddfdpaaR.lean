/-
  A disk with one file, behind a sync, and a copy of all that was appended: what an Append leaves of them.
-/
import Derived.Test.YtiiielhhddfdpaaQ
namespace Go.Proofs.Ytiiielhhddfdpaa
open Go.ChangeShapes Go.WideShapes Go.ChangeAt Go.RowKit

theorem isNm_x : isNm ⟨#[120]⟩ = true := by decide
def esX (fb : Nat) : Array MapEntry := #[⟨.string ⟨#[120]⟩, .pointer (some ⟨fb, 0, none⟩), 0⟩]
theorem SK_x (fb : Nat) : SK (esX fb).toList := SK_one _ _ _
theorem lk_x (fb : Nat) : lk (esX fb).toList ⟨#[120]⟩ = some (.pointer (some ⟨fb, 0, none⟩)) := rfl

def TI (w0 w : World) (b m0 m1 fb : Nat) (cnt : Int) (sv uv fpv av : Value) (sure ps : List Value) (xss : List (List Value)) (allc : List Value) : Prop :=
  DB w b 1048576 m0 m1 (.slice none 0 0) (sure ++ xss.flatten).length 1 cnt 0 (-1) false ∧ w.heap[m0]? = some (.map (esX fb) 1) ∧ w.heap[m1]? = some (.map (esX fb) 1) ∧ FB w fb 0 sv uv fpv ∧
  w.ownsRow 0 5 1 sv (sure ++ xss.flatten).length (sure ++ xss.flatten) ∧ w.ownsRow 0 5 1 uv sure.length sure ∧ w.ownsRow 0 130 1 fpv ps.length ps ∧ w.ownsRow 0 5 1 av allc.length allc ∧
  PX w (fun k => sv.ownBlock = some k ∨ uv.ownBlock = some k ∨ av.ownBlock = some k) fb sure.length ps xss ∧
  (∀ k, sv.ownBlock = some k → uv.ownBlock ≠ some k ∧ av.ownBlock ≠ some k) ∧ (∀ k, uv.ownBlock = some k → av.ownBlock ≠ some k) ∧
  Fr [] w0 w ∧ w0.heap.size ≤ b ∧ w0.heap.size ≤ fb ∧ (∀ k, sv.ownBlock = some k ∨ uv.ownBlock = some k ∨ fpv.ownBlock = some k ∨ av.ownBlock = some k → w0.heap.size ≤ k)

/-- What turns the disk's own block, or the copy, alone. -/
theorem TI.move {w0 w w' : World} {b m0 m1 fb : Nat} {cnt cnt' : Int} {sv uv fpv av av' : Value} {sure ps : List Value} {xss : List (List Value)} {allc allc' : List Value} {S : List Nat} (h : TI w0 w b m0 m1 fb cnt sv uv fpv av sure ps xss allc)
    (hf : Fr S w w') (hS : ∀ k ∈ S, k = b ∨ av.ownBlock = some k) (hd : DB w' b 1048576 m0 m1 (.slice none 0 0) (sure ++ xss.flatten).length 1 cnt' 0 (-1) false) (hav : w'.ownsRow 0 5 1 av' allc'.length allc')
    (hat : av'.ownBlock = av.ownBlock ∨ ∃ k, av'.ownBlock = some k ∧ w.heap.size ≤ k) : TI w0 w' b m0 m1 fb cnt' sv uv fpv av' sure ps xss allc' := by
  obtain ⟨a1, a2, a3, a4, a5, a6, a7, a8, a9, a10, a11, a12, a13, a14, a15⟩ := h
  have hsz := a12.size
  have key : ∀ k o, w.heap[k]? = some o → (∀ cs, o ≠ .cells cs 65 (0, 0)) → (∀ cs, o ≠ .cells cs 5 (0, 0)) → k ∉ S := fun k o hk h1 h2 e => by
    rcases hS k e with rfl | e
    · exact notin_types hk a1 h1 rfl
    · rcases a8.2 with ⟨e2, _⟩ | ⟨g, cap, cu, e2, _, e3, _⟩
      · rw [e2] at e; simp [Value.ownBlock] at e
      · rw [e2] at e; simp only [Value.ownBlock, Option.some.injEq] at e; subst e; rw [hk] at e3; cases e3; exact h2 _ rfl
  refine ⟨hd, hf.at a2 (key m0 _ a2 (by simp) (by simp)), hf.at a3 (key m1 _ a3 (by simp) (by simp)), hf.at a4 (key fb _ a4 (by simp) (by simp)), ownsRow_of_block a5 fun k hk => hf.block k (a5.lt k hk).2 fun e => ?_, ownsRow_of_block a6 fun k hk => hf.block k (a6.lt k hk).2 fun e => ?_,
    ownsRow_of_block a7 fun k hk => hf.block k (a7.lt k hk).2 fun e => ?_, hav, PX.keep hf (fun k hk => ?_) (fun k hk e => ?_) a9, fun k hk => ⟨(a10 k hk).1, fun e => ?_⟩, fun k hk e => ?_, a12.trans' hf fun x hx hlt => ?_, a13, a14, fun k hk => ?_⟩
  · rcases hS k e with rfl | e
    · exact ownsRow_ne a5 a1 (by decide) hk
    · exact (a10 k hk).2 e
  · rcases hS k e with rfl | e
    · exact ownsRow_ne a6 a1 (by decide) hk
    · exact a11 k hk e
  · rcases hS k e with rfl | e
    · exact ownsRow_ne a7 a1 (by decide) hk
    · exact ownsRow_apart a8 a7 (by decide) e hk
  · rcases hS k hk with rfl | e
    · exact .inr fun v n x hv => ownsRow_ne hv a1 (by decide)
    · exact .inl (.inr (.inr e))
  · rcases e with e | e | e
    · exact .inl e
    · exact .inr (.inl e)
    · rcases hat with h | ⟨k', h, h2⟩
      · exact .inr (.inr (h ▸ e))
      · rw [h] at e; cases e; omega
  · rcases hat with h | ⟨k', h, h2⟩
    · exact (a10 k hk).2 (h ▸ e)
    · rw [h] at e; cases e; have := (a5.lt k hk).2; omega
  · rcases hat with h | ⟨k', h, h2⟩
    · exact a11 k hk (h ▸ e)
    · rw [h] at e; cases e; have := (a6.lt k hk).2; omega
  · rcases hS x hx with rfl | e
    · omega
    · have := a15 x (.inr (.inr (.inr e))); omega
  · rcases hk with e | e | e | e
    · exact a15 k (.inl e)
    · exact a15 k (.inr (.inl e))
    · exact a15 k (.inr (.inr (.inl e)))
    · rcases hat with h | ⟨k', h, h2⟩
      · exact a15 k (.inr (.inr (.inr (h ▸ e))))
      · rw [h] at e; cases e; omega

/-- An Append of some bytes. -/
theorem TI.app {w0 w w' : World} {b m0 m1 fb : Nat} {cnt : Int} {sv uv fpv av v' pv' bv' : Value} {sure ps : List Value} {xss : List (List Value)} {allc x : List Value} (h : TI w0 w b m0 m1 fb cnt sv uv fpv av sure ps xss allc) (hx : 0 < x.length) (hb : Bts x)
    (c : FB w' fb 0 v' uv pv' ∧ w'.ownsRow 0 5 1 v' ((sure ++ xss.flatten) ++ x).length ((sure ++ xss.flatten) ++ x) ∧ w'.ownsRow 0 130 1 pv' (ps ++ [wrt fb (sure ++ xss.flatten).length bv']).length (ps ++ [wrt fb (sure ++ xss.flatten).length bv']) ∧
      w'.ownsRow w.heap.size 5 1 bv' x.length x ∧ DB w' b 1048576 m0 m1 (.slice none 0 0) ((sure ++ xss.flatten).length + x.length) 1 (cnt + 1) 0 (-1) false ∧ Fr (b :: fb :: (sv.ownBlock.toList ++ fpv.ownBlock.toList)) w w' ∧
      (v'.ownBlock = sv.ownBlock ∨ ∃ k, v'.ownBlock = some k ∧ w.heap.size ≤ k) ∧ (pv'.ownBlock = fpv.ownBlock ∨ ∃ k, pv'.ownBlock = some k ∧ w.heap.size ≤ k) ∧ (∀ k, bv'.ownBlock = some k → v'.ownBlock ≠ some k)) :
    TI w0 w' b m0 m1 fb (cnt + 1) v' uv pv' av sure (ps ++ [wrt fb (sure ++ xss.flatten).length bv']) (xss ++ [x]) allc := by
  obtain ⟨a1, a2, a3, a4, a5, a6, a7, a8, a9, a10, a11, a12, a13, a14, a15⟩ := h
  obtain ⟨c1, c2, c3, c4, c5, c6, c7, c8, c9⟩ := c
  have hsz := a12.size
  have hE : sure ++ (xss ++ [x]).flatten = (sure ++ xss.flatten) ++ x := by simp [List.flatten_append]
  have key : ∀ k, k ≠ b → k ≠ fb → sv.ownBlock ≠ some k → fpv.ownBlock ≠ some k → k ∉ b :: fb :: (sv.ownBlock.toList ++ fpv.ownBlock.toList) := fun k h1 h2 h3 h4 e => by
    simp only [List.mem_cons, List.mem_append, Option.mem_toList] at e
    rcases e with e | e | e | e
    · exact h1 e
    · exact h2 e
    · exact h3 e
    · exact h4 e
  have km : ∀ k, w.heap[k]? = some (.map (esX fb) 1) → k ∉ b :: fb :: (sv.ownBlock.toList ++ fpv.ownBlock.toList) := fun k hk =>
    key k (notin_types hk a1 (by simp)) (notin_types hk a4 (by simp)) (ownsRow_nemap a5 hk) (ownsRow_nemap a7 hk)
  have kr : ∀ v n ys, w.ownsRow 0 5 1 v n ys → (∀ k, sv.ownBlock = some k → v.ownBlock ≠ some k) → ∀ k, v.ownBlock = some k → k ∉ b :: fb :: (sv.ownBlock.toList ++ fpv.ownBlock.toList) := fun v n ys hv hd k hk =>
    key k (fun e => by subst e; exact ownsRow_ne hv a1 (by decide) hk) (fun e => by subst e; exact ownsRow_ne hv a4 (by decide) hk) (fun e => hd k e hk) (fun e => ownsRow_apart hv a7 (by decide) hk e)
  have hbv := c4.lt
  have k6 : w'.ownsRow 0 5 1 uv sure.length sure := ownsRow_of_block a6 fun k hk => c6.block k (a6.lt k hk).2 (kr _ _ _ a6 (fun k h => (a10 k h).1) k hk)
  have k8 : w'.ownsRow 0 5 1 av allc.length allc := ownsRow_of_block a8 fun k hk => c6.block k (a8.lt k hk).2 (kr _ _ _ a8 (fun k h => (a10 k h).2) k hk)
  have hpx : PX w' (fun k => v'.ownBlock = some k ∨ uv.ownBlock = some k ∨ av.ownBlock = some k) fb sure.length ps xss := by
    refine PX.keep c6 (fun k hk => ?_) (fun k hk e => ?_) a9
    · simp only [List.mem_cons, List.mem_append, Option.mem_toList] at hk
      rcases hk with rfl | rfl | e | e
      · exact .inr fun v n x hv => ownsRow_ne hv a1 (by decide)
      · exact .inr fun v n x hv => ownsRow_ne hv a4 (by decide)
      · exact .inl (.inl e)
      · exact .inr fun v n x hv he => ownsRow_apart hv a7 (by decide) he e
    · rcases e with e | e | e
      · rcases c7 with h | ⟨k', h, h2⟩
        · exact .inl (h ▸ e)
        · rw [h] at e; cases e; omega
      · exact .inr (.inl e)
      · exact .inr (.inr e)
  refine ⟨?_, c6.at a2 (km m0 a2), c6.at a3 (km m1 a3), c1, ?_, k6, c3, k8, ?_, fun k hk => ⟨fun e => ?_, fun e => ?_⟩, a11, ?_, a13, a14, fun k hk => ?_⟩
  · rw [hE, show ((((sure ++ xss.flatten) ++ x).length : Nat) : Int) = (sure ++ xss.flatten).length + x.length from by rw [List.length_append]; omega]; exact c5
  · rw [hE]; exact c2
  · have := PX.snoc (ownsRow_base c4 (Nat.zero_le _)) (fun k hk e => ?_) hx hb hpx
    · rw [show sure.length + xss.flatten.length = (sure ++ xss.flatten).length from by simp] at this; exact this
    · have h1 := hbv k hk
      rcases e with e | e | e
      · exact c9 k hk e
      · have := (a6.lt k e).2; omega
      · have := (a8.lt k e).2; omega
  · rcases c7 with h | ⟨k', h, h2⟩
    · exact (a10 k (h ▸ hk)).1 e
    · rw [h] at hk; cases hk; have := (a6.lt k e).2; omega
  · rcases c7 with h | ⟨k', h, h2⟩
    · exact (a10 k (h ▸ hk)).2 e
    · rw [h] at hk; cases hk; have := (a8.lt k e).2; omega
  · refine a12.trans' c6 fun y hy hlt => ?_
    simp only [List.mem_cons, List.mem_append, Option.mem_toList] at hy
    rcases hy with e | e | e | e
    · omega
    · omega
    · have := a15 y (.inl e); omega
    · have := a15 y (.inr (.inr (.inl e))); omega
  · rcases hk with e | e | e | e
    · rcases c7 with h | ⟨k', h, h2⟩
      · exact a15 k (.inl (h ▸ e))
      · rw [h] at e; cases e; omega
    · exact a15 k (.inr (.inl e))
    · rcases c8 with h | ⟨k', h, h2⟩
      · exact a15 k (.inr (.inr (.inl (h ▸ e))))
      · rw [h] at e; cases e; omega
    · exact a15 k (.inr (.inr (.inr e)))
end Go.Proofs.Ytiiielhhddfdpaa
