/-
  The steps of a Restart of a disk with one sure name, whenever the name was laid into its map.
-/
import Derived.Test.YtilgagmnifbdpaaL0
namespace Go.Proofs.Ytilgagmnifbdpaa.Gen
open Go.ChangeShapes Go.WideShapes Go.ChangeAt Go.RowKit

theorem next_one {W : World} {r bm : Nat} {k v : Value} {bn ck : Nat} (hbn : bn < ck) (hr : W.heap[r]? = some (.mapIter (some bm) ck #[] ck)) (hb : W.heap[bm]? = some (.map #[⟨k, v, bn⟩] ck)) (ty : TypeId) :
    ∃ W', (Instr.next (.pointer (some ⟨r, 0, none⟩)) false ty).run Try.prog W = .ok (.tuple #[.bool true, k, v]) W' ∧ W'.heap[r]? = some (.mapIter (some bm) ck #[bn] ck) ∧ Fr [r] W W' := by
  rcases run_next_at (P := Try.prog) W ty r bm ck ck #[] #[⟨k, v, bn⟩] ck hr hb (by simpa using hbn) (by omega) with ⟨h, _⟩ | ⟨e, he, w1, hw1, hrun⟩
  · simp [leftOf] at h
  · have he' : e = ⟨k, v, bn⟩ := by
      have := (mem_left he).1; simpa using this
    subst he'
    refine ⟨_, hrun, ?_, ?_⟩
    · rw [blk_block]; rfl
      rcases hw1 with rfl | rfl
      · exact blk_lt hr
      · exact blk_lt hr
    · rcases hw1 with rfl | rfl
      · exact (Fr.refl _ _).block_ _ (.inl (by simp))
      · exact ((Fr.refl _ W).drew).block_ _ (.inl (by simp))
theorem next_end {W : World} {r bm : Nat} {k v : Value} {bn ck : Nat} (hbn : bn < ck) (hr : W.heap[r]? = some (.mapIter (some bm) ck #[bn] ck)) (hb : W.heap[bm]? = some (.map #[⟨k, v, bn⟩] ck)) (ty : TypeId) :
    (Instr.next (.pointer (some ⟨r, 0, none⟩)) false ty).run Try.prog W = .ok (.tuple #[.bool false]) W := by
  rcases run_next_at (P := Try.prog) W ty r bm ck ck #[bn] #[⟨k, v, bn⟩] ck hr hb (by simpa using hbn) (by omega) with ⟨_, h⟩ | ⟨e, he, w1, hw1, hrun⟩
  · exact h
  · simp [leftOf] at he

/-- Where Restart stands when the file is settled. -/
def R7 (bn ck : Nat) (w : World) (b : Nat) (cap : Int) (bm m1 : Nat) (made cnt fail halt : Int) (down : Bool) (s : ByteArray) (fb : Nat) (sv uv : Value) (T : List Value) (r : Nat) (W : World) : Prop :=
  DB W b cap bm m1 (.slice none 0 0) 0 made cnt fail halt down ∧ Fr (b :: m1 :: fb :: uv.ownBlock.toList) w W ∧ W.heap[bm]? = some (.map #[⟨.string s, .pointer (some ⟨fb, 0, none⟩), bn⟩] ck) ∧ W.heap[r]? = some (.mapIter (some bm) ck #[bn] ck) ∧
    ∃ uv5, FB W fb 0 sv uv5 (.slice none 0 0) ∧ W.ownsRow 0 5 1 uv5 T.length T

/-- Where Restart stands when the file's seen bytes are its sure ones. -/
def R8 (bn ck : Nat) (w : World) (b : Nat) (cap : Int) (bm m1 : Nat) (used made cnt fail halt : Int) (down : Bool) (s : ByteArray) (fb : Nat) (uv : Value) (T : List Value) (r : Nat) (W : World) : Prop :=
  DB W b cap bm m1 (.slice none 0 0) used made cnt fail halt down ∧ Fr (b :: m1 :: fb :: uv.ownBlock.toList) w W ∧ W.heap[bm]? = some (.map #[⟨.string s, .pointer (some ⟨fb, 0, none⟩), bn⟩] ck) ∧ W.heap[r]? = some (.mapIter (some bm) ck #[bn] ck) ∧
    ∃ sv' uv5, FB W fb 0 sv' uv5 (.slice none 0 0) ∧ W.ownsRow 0 5 1 sv' T.length T ∧ W.ownsRow 0 5 1 uv5 T.length T

theorem r7_mk {bn ck : Nat} {w W w5 : World} {b bm m1 r fb : Nat} {cap made cnt fail halt : Int} {down : Bool} {s : ByteArray} {sv uv fpv : Value} {sure T : List Value} (hd : DB W b cap bm m1 (.slice none 0 0) 0 made cnt fail halt down) (hf : Fr [b, m1] w W)
    (hm : W.heap[bm]? = some (.map #[⟨.string s, .pointer (some ⟨fb, 0, none⟩), bn⟩] ck)) (hi : W.heap[r]? = some (.mapIter (some bm) ck #[bn] ck)) (h1 : FB W fb 0 sv uv fpv) (h2 : W.ownsRow 0 5 1 uv sure.length sure)
    (hg : ∃ uv', FB w5 fb 0 sv uv' (.slice none 0 0) ∧ w5.ownsRow 0 5 1 uv' T.length T ∧ Fr (fb :: uv.ownBlock.toList) W.drew w5 ∧ (uv'.ownBlock = uv.ownBlock ∨ ∃ k, uv'.ownBlock = some k ∧ W.drew.heap.size ≤ k)) :
    R7 bn ck w b cap bm m1 made cnt fail halt down s fb sv uv T r w5 := by
  obtain ⟨uv', g1, g2, g3, _⟩ := hg
  have key : ∀ k (o : Obj), W.heap[k]? = some o → (∀ cs, o ≠ .cells cs 57 (0, 0)) → (uv.ownBlock ≠ some k) → w5.heap[k]? = some o := fun k o hk hno hu =>
    g3.at (a := W.drew) hk (by
      intro e
      rcases List.mem_cons.1 e with e | e
      · exact fb_nobj h1 hk hno e
      · exact hu (by simpa using e))
  refine ⟨key b _ hd (by simp) (ownsRow_ne h2 hd (by decide)), ?_, key bm _ hm (by simp) (ownsRow_nobj h2 hm (by simp)), key r _ hi (by simp) (ownsRow_nobj h2 hi (by simp)), uv', g1, g2⟩
  have hd' : Fr (fb :: uv.ownBlock.toList) W w5 := ((Fr.refl _ W).drew).trans g3
  exact (hf.mono (by simp)).trans (hd'.mono fun k hk => List.mem_cons_of_mem _ (List.mem_cons_of_mem _ hk))

theorem r8_mk {bn ck : Nat} {w W w6 : World} {b bm m1 r fb : Nat} {cap made cnt fail halt : Int} {down : Bool} {s : ByteArray} {sv uv uv5 cv : Value} {T : List Value}
    (hc : DB W b cap bm m1 (.slice none 0 0) 0 made cnt fail halt down ∧ Fr (b :: m1 :: fb :: uv.ownBlock.toList) w W ∧ W.heap[bm]? = some (.map #[⟨.string s, .pointer (some ⟨fb, 0, none⟩), bn⟩] ck) ∧ W.heap[r]? = some (.mapIter (some bm) ck #[bn] ck) ∧ FB W fb 0 sv uv5 (.slice none 0 0) ∧ W.ownsRow 0 5 1 uv5 T.length T)
    (he : w6.ownsRow W.drew.heap.size 5 1 cv T.length T ∧ Fr [] W.drew w6) : R8 bn ck w b cap bm m1 0 made cnt fail halt down s fb uv T r (w6.setCell ⟨fb, 1, none⟩ cv) := by
  obtain ⟨c1, c2, c3, c4, c5, c6⟩ := hc
  obtain ⟨e1, e2⟩ := he
  have hf : Fr [] W w6 := ((Fr.refl _ W).drew).trans e2
  have k5 : FB w6 fb 0 sv uv5 (.slice none 0 0) := hf.at c5 (by simp)
  have k6 : w6.ownsRow 0 5 1 uv5 T.length T := ownsRow_of_block c6 fun k hk => hf.block k (c6.lt k hk).2 (by simp)
  have key : ∀ k (o : Obj), W.heap[k]? = some o → (∀ cs, o ≠ .cells cs 57 (0, 0)) → (w6.setCell ⟨fb, 1, none⟩ cv).heap[k]? = some o := fun k o hk hno => by
    rw [blk_setne _ _ _ (fb_nobj c5 hk hno)]; exact hf.at hk (by simp)
  refine ⟨key b _ c1 (by simp), ?_, key bm _ c3 (by simp), key r _ c4 (by simp), cv, uv5, ?_, ?_, ?_⟩
  · exact (c2.trans (hf.mono (by simp))).set _ _ (.inl (by simp))
  · unfold FB; rw [blk_set k5]; rfl
  · exact ownsRow_base (ownsRow_of_block e1 fun k hk => blk_setne _ _ _ (by intro e; subst e; exact ownsRow_ne e1 k5 (by decide) hk)) (Nat.zero_le _)
  · exact ownsRow_of_block k6 fun k hk => blk_setne _ _ _ (by intro e; subst e; exact ownsRow_ne k6 k5 (by decide) hk)

theorem r9_mk {bn ck : Nat} {w W : World} {b bm m1 r fb : Nat} {cap made cnt fail halt x : Int} {down : Bool} {s : ByteArray} {uv sv8 uv8 : Value} {T : List Value} (hx : x = T.length)
    (hc : DB W b cap bm m1 (.slice none 0 0) 0 made cnt fail halt down ∧ Fr (b :: m1 :: fb :: uv.ownBlock.toList) w W ∧ W.heap[bm]? = some (.map #[⟨.string s, .pointer (some ⟨fb, 0, none⟩), bn⟩] ck) ∧ W.heap[r]? = some (.mapIter (some bm) ck #[bn] ck) ∧ FB W fb 0 sv8 uv8 (.slice none 0 0) ∧ W.ownsRow 0 5 1 sv8 T.length T ∧ W.ownsRow 0 5 1 uv8 T.length T) :
    R8 bn ck w b cap bm m1 T.length made cnt fail halt down s fb uv T r (W.setCell ⟨b, 4, none⟩ (.int .i64 x)).drew := by
  subst hx
  obtain ⟨c1, c2, c3, c4, c5, c6, c7⟩ := hc
  have key : ∀ k (o : Obj), W.heap[k]? = some o → (∀ cs, o ≠ .cells cs 49 (0, 0)) → (W.setCell ⟨b, 4, none⟩ (.int .i64 T.length)).drew.heap[k]? = some o := fun k o hk hno => by
    rw [blk_drew, blk_setne _ _ _ (by intro e; subst e; unfold DB at c1; rw [hk] at c1; cases c1; exact hno _ rfl)]; exact hk
  refine ⟨?_, (c2.set _ _ (.inl (by simp))).drew, key bm _ c3 (by simp), key r _ c4 (by simp), sv8, uv8, key fb _ c5 (by simp), ?_, ?_⟩
  · unfold DB; rw [blk_drew, blk_set c1]; rfl
  · exact ownsRow_of_block c6 fun k hk => blk_setne _ _ _ (by intro e; subst e; exact ownsRow_ne c6 c1 (by decide) hk)
  · exact ownsRow_of_block c7 fun k hk => blk_setne _ _ _ (by intro e; subst e; exact ownsRow_ne c7 c1 (by decide) hk)

theorem r10_mk {bn ck : Nat} {w W : World} {b bm m1 fb : Nat} {cap made cnt fail halt : Int} {down : Bool} {s : ByteArray} {uv sv8 uv8 : Value} {T : List Value}
    (hc : DB W b cap bm m1 (.slice none 0 0) T.length made cnt fail halt down ∧ Fr (b :: m1 :: fb :: uv.ownBlock.toList) w W ∧ W.heap[bm]? = some (.map #[⟨.string s, .pointer (some ⟨fb, 0, none⟩), bn⟩] ck) ∧ FB W fb 0 sv8 uv8 (.slice none 0 0) ∧ W.ownsRow 0 5 1 sv8 T.length T ∧ W.ownsRow 0 5 1 uv8 T.length T) :
    ∃ m0' sv' uv', DB (((W.setCell ⟨b, 7, none⟩ (.int .i64 0)).setCell ⟨b, 8, none⟩ (.int .i64 (-1))).setCell ⟨b, 9, none⟩ (.bool false)) b cap m0' m1 (.slice none 0 0) T.length made cnt 0 (-1) false ∧
      (((W.setCell ⟨b, 7, none⟩ (.int .i64 0)).setCell ⟨b, 8, none⟩ (.int .i64 (-1))).setCell ⟨b, 9, none⟩ (.bool false)).heap[m0']? = some (.map #[⟨.string s, .pointer (some ⟨fb, 0, none⟩), bn⟩] ck) ∧
      FB (((W.setCell ⟨b, 7, none⟩ (.int .i64 0)).setCell ⟨b, 8, none⟩ (.int .i64 (-1))).setCell ⟨b, 9, none⟩ (.bool false)) fb 0 sv' uv' (.slice none 0 0) ∧
      (((W.setCell ⟨b, 7, none⟩ (.int .i64 0)).setCell ⟨b, 8, none⟩ (.int .i64 (-1))).setCell ⟨b, 9, none⟩ (.bool false)).ownsRow 0 5 1 sv' T.length T ∧
      (((W.setCell ⟨b, 7, none⟩ (.int .i64 0)).setCell ⟨b, 8, none⟩ (.int .i64 (-1))).setCell ⟨b, 9, none⟩ (.bool false)).ownsRow 0 5 1 uv' T.length T ∧
      Fr (b :: m1 :: fb :: uv.ownBlock.toList) w (((W.setCell ⟨b, 7, none⟩ (.int .i64 0)).setCell ⟨b, 8, none⟩ (.int .i64 (-1))).setCell ⟨b, 9, none⟩ (.bool false)) := by
  obtain ⟨c1, c2, c3, c5, c6, c7⟩ := hc
  have hF : Fr (b :: m1 :: fb :: uv.ownBlock.toList) w (((W.setCell ⟨b, 7, none⟩ (.int .i64 0)).setCell ⟨b, 8, none⟩ (.int .i64 (-1))).setCell ⟨b, 9, none⟩ (.bool false)) :=
    (((c2.set _ _ (.inl (by simp))).set _ _ (.inl (by simp))).set _ _ (.inl (by simp)))
  have hD : DB (((W.setCell ⟨b, 7, none⟩ (.int .i64 0)).setCell ⟨b, 8, none⟩ (.int .i64 (-1))).setCell ⟨b, 9, none⟩ (.bool false)) b cap bm m1 (.slice none 0 0) T.length made cnt 0 (-1) false := by
    unfold DB; rw [blk_set (blk_set (blk_set c1 _ _) _ _) _ _]; rfl
  have k1 : ∀ k, k ≠ b → (((W.setCell ⟨b, 7, none⟩ (.int .i64 0)).setCell ⟨b, 8, none⟩ (.int .i64 (-1))).setCell ⟨b, 9, none⟩ (.bool false)).heap[k]? = W.heap[k]? := fun k hk => by
    rw [blk_setne _ _ _ hk, blk_setne _ _ _ hk, blk_setne _ _ _ hk]
  have key : ∀ k (o : Obj), W.heap[k]? = some o → (∀ cs, o ≠ .cells cs 49 (0, 0)) → k ≠ b := fun k o hk hno e => by
    subst e; unfold DB at c1; rw [hk] at c1; cases c1; exact hno _ rfl
  refine ⟨bm, sv8, uv8, hD, by rw [k1 _ (key bm _ c3 (by simp))]; exact c3, by unfold FB; rw [k1 _ (key fb _ c5 (by simp))]; exact c5, ?_, ?_, hF⟩
  · exact ownsRow_of_block c6 fun k hk => k1 k (by intro e; subst e; exact ownsRow_ne c6 c1 (by decide) hk)
  · exact ownsRow_of_block c7 fun k hk => k1 k (by intro e; subst e; exact ownsRow_ne c7 c1 (by decide) hk)

theorem carry {w W : World} {b m0 m1 : Nat} {cap used made cnt fail halt : Int} {pv : Value} {down : Bool} {es : Array MapEntry} {clk : Nat} (h : DB w b cap m0 m1 pv used made cnt fail halt down) (hm : w.heap[m1]? = some (.map es clk)) (hf : Fr [b, m1] w W) {fb : Nat} {num : Int} {sv uv fpv : Value} {n : Nat} {sure ps : List Value} {xs : List (List Value)}
    (h1 : FB w fb num sv uv fpv) (h2 : w.ownsRow 0 5 1 uv sure.length sure) (h3 : w.ownsRow 0 76 1 fpv ps.length ps) (h4 : PW w uv.ownBlock fb n ps xs) :
    FB W fb num sv uv fpv ∧ W.ownsRow 0 5 1 uv sure.length sure ∧ W.ownsRow 0 76 1 fpv ps.length ps ∧ PW W uv.ownBlock fb n ps xs := by
  have key : ∀ k, k ∈ [b, m1] → k = b ∨ k = m1 := fun k hk => by simpa using hk
  refine ⟨hf.at h1 ?_, ownsRow_of_block h2 fun k hk => hf.block k (h2.lt k hk).2 ?_, ownsRow_of_block h3 fun k hk => hf.block k (h3.lt k hk).2 ?_, PW.keep hf ?_ h4⟩
  · intro e
    rcases key _ e with rfl | rfl
    · unfold DB at h; unfold FB at h1; rw [h] at h1; simp at h1
    · unfold FB at h1; rw [hm] at h1; cases h1
  · intro e
    rcases key _ e with rfl | rfl
    · exact ownsRow_ne h2 h (by decide) hk
    · exact ownsRow_nemap h2 hm hk
  · intro e
    rcases key _ e with rfl | rfl
    · exact ownsRow_ne h3 h (by decide) hk
    · exact ownsRow_nemap h3 hm hk
  · intro k hk v n x hv
    rcases key _ hk with rfl | rfl
    · exact ownsRow_ne hv h (by decide)
    · exact ownsRow_nemap hv hm
end Go.Proofs.Ytilgagmnifbdpaa.Gen
