/-
  The first calls of DiskTorn: a file is made, gets its bytes, and is synced, names and bytes.
-/
import Derived.Test.YtiiielhhddfdpaaR
namespace Go.Proofs.Ytiiielhhddfdpaa
open Go.ChangeShapes Go.WideShapes Go.ChangeAt Go.RowKit

/-- Behind Create. -/
def P3 (w0 w : World) (b m0 m1 fb : Nat) : Prop :=
  ∃ pv, DB w b 1048576 m0 m1 pv 0 1 1 0 (-1) false ∧ w.ownsRow 0 130 1 pv 1 [cr b ⟨#[120]⟩ fb] ∧ w.heap[m0]? = some (.map (esX fb) 1) ∧ w.heap[m1]? = some (.map #[] 0) ∧ FB w fb 0 (.slice none 0 0) (.slice none 0 0) (.slice none 0 0) ∧
    Fr [] w0 w ∧ w0.heap.size ≤ b ∧ w0.heap.size ≤ m1 ∧ w0.heap.size ≤ fb
/-- Behind the first Append. -/
def P4 (w0 w : World) (b m0 m1 fb : Nat) (sure : List Value) : Prop :=
  ∃ pv sv fpv ps xss, DB w b 1048576 m0 m1 pv sure.length 1 2 0 (-1) false ∧ w.ownsRow 0 130 1 pv 1 [cr b ⟨#[120]⟩ fb] ∧ w.heap[m0]? = some (.map (esX fb) 1) ∧ w.heap[m1]? = some (.map #[] 0) ∧ FB w fb 0 sv (.slice none 0 0) fpv ∧
    Fr [] w0 w ∧ w0.heap.size ≤ b ∧ w0.heap.size ≤ m1 ∧ w0.heap.size ≤ fb ∧ w.ownsRow 0 5 1 sv sure.length sure ∧ w.ownsRow 0 130 1 fpv (ps : List Value).length ps ∧ PW w none fb 0 ps xss ∧ xss.flatten = sure ∧ ps.length ≤ 1 ∧ (∀ k, sv.ownBlock = some k → w0.heap.size ≤ k)
/-- Behind Sync. -/
def P5 (w0 w : World) (b m0 m1 fb : Nat) (sure : List Value) : Prop :=
  ∃ pv sv uv, DB w b 1048576 m0 m1 pv sure.length 1 3 0 (-1) false ∧ w.ownsRow 0 130 1 pv 1 [cr b ⟨#[120]⟩ fb] ∧ w.heap[m0]? = some (.map (esX fb) 1) ∧ w.heap[m1]? = some (.map #[] 0) ∧ FB w fb 0 sv uv (.slice none 0 0) ∧
    Fr [] w0 w ∧ w0.heap.size ≤ b ∧ w0.heap.size ≤ m1 ∧ w0.heap.size ≤ fb ∧ w.ownsRow 0 5 1 sv sure.length sure ∧ w.ownsRow 0 5 1 uv sure.length sure ∧ (∀ k, sv.ownBlock = some k → w0.heap.size ≤ k ∧ uv.ownBlock ≠ some k) ∧ (∀ k, uv.ownBlock = some k → w0.heap.size ≤ k)
/-- Behind SyncDir. -/
def P6 (w0 w : World) (b m0 m1 fb : Nat) (sure : List Value) : Prop :=
  ∃ sv uv, DB w b 1048576 m0 m1 (.slice none 0 0) sure.length 1 4 0 (-1) false ∧ w.heap[m0]? = some (.map (esX fb) 1) ∧ w.heap[m1]? = some (.map (esX fb) 1) ∧ FB w fb 0 sv uv (.slice none 0 0) ∧
    Fr [] w0 w ∧ w0.heap.size ≤ b ∧ w0.heap.size ≤ fb ∧ w.ownsRow 0 5 1 sv sure.length sure ∧ w.ownsRow 0 5 1 uv sure.length sure ∧ (∀ k, sv.ownBlock = some k → w0.heap.size ≤ k ∧ uv.ownBlock ≠ some k) ∧ (∀ k, uv.ownBlock = some k → w0.heap.size ≤ k)

theorem made_one {w w2 w3 : World} {b m0 m1 fb : Nat} {pv3 : Value}
    (h2 : DB w2 b 1048576 m0 m1 (.slice none 0 0) 0 0 0 0 (-1) false ∧ w2.heap[m0]? = some (.map #[] 0) ∧ w2.heap[m1]? = some (.map #[] 0) ∧ m0 ≠ m1 ∧ w.heap.size ≤ b ∧ w.heap.size ≤ m0 ∧ w.heap.size ≤ m1 ∧ Fr [] w w2)
    (h3 : DB w3 b 1048576 m0 m1 pv3 0 (0 + 1) (0 + 1) 0 (-1) false ∧ w3.ownsRow 0 130 1 pv3 ([] ++ [cr b ⟨#[120]⟩ fb]).length ([] ++ [cr b ⟨#[120]⟩ fb]) ∧ w3.heap[m0]? = some (.map (#[].push ⟨.string ⟨#[120]⟩, .pointer (some ⟨fb, 0, none⟩), 0⟩) (0 + 1)) ∧
      FB w3 fb 0 (.slice none 0 0) (.slice none 0 0) (.slice none 0 0) ∧ w2.heap.size ≤ fb ∧ Fr (m0 :: b :: (Value.slice none 0 0).ownBlock.toList) w2 w3 ∧ (pv3.ownBlock = (Value.slice none 0 0).ownBlock ∨ ∃ k, pv3.ownBlock = some k ∧ w2.heap.size ≤ k)) : P3 w w3 b m0 m1 fb := by
  obtain ⟨a1, a2, a3, a4, a5, a6, a7, a8⟩ := h2
  obtain ⟨b1, b2, b3, b4, b5, b6, b7⟩ := h3
  have hs := a8.size
  refine ⟨pv3, b1, b2, b3, b6.at a3 ?_, b4, a8.trans' b6 fun x hx hlt => ?_, a5, a7, by omega⟩
  · simp only [Value.ownBlock, Option.toList_none, List.mem_cons, List.not_mem_nil, or_false, not_or]
    exact ⟨Ne.symm a4, notin_types a3 a1 (by simp)⟩
  · simp only [Value.ownBlock, Option.toList_none, List.mem_cons, List.not_mem_nil, or_false] at hx; omega

theorem first_app {w0 w : World} {b m0 m1 fb : Nat} {ua : Option Addr} {uc : Nat} {sure : List Value} (h : P3 w0 w b m0 m1 fb) (hr0 : Rd w0 (.slice ua sure.length uc) sure) (hb : Bts sure) (hl : sure.length ≤ 500) :
    Calls Try.prog 27 #[.pointer (some ⟨b, 0, none⟩), .string ⟨#[120]⟩, .slice ua sure.length uc] w fun e w' => e = .returned (.int .i64 0) ∧ P4 w0 w' b m0 m1 fb sure := by
  obtain ⟨pv, a1, a2, a3, a4, a5, a6, a7, a8, a9⟩ := h
  have hr := hr0.fr a6
  have hs := a6.size
  have hfb : fb ≠ b := notin_types a5 a1 (by simp)
  by_cases hx : 0 < sure.length
  · refine (append_ok a1 (by omega) (by omega) a3 (SK_x _) (lk_x _) isNm_x (by decide) a5 (olds := []) (ps := []) (World.ownsRow_nil _ _ _ _) (World.ownsRow_nil _ _ _ _) hr hb (fun a n c e => ?_) hx (by omega) (by simp) (by simp) (by omega) (by omega) (by omega)).mono ?_
    · cases e; have := Rd.lt hr0 hx; omega
    rintro e w' ⟨rfl, v', pv', bv', c1, c2, c3, c4, c5, c6, c7, c8, c9⟩
    have kk : ∀ k, k ≠ b → k ≠ fb → k ∉ b :: fb :: ((Value.slice none 0 0).ownBlock.toList ++ (Value.slice none 0 0).ownBlock.toList) := fun k h1 h2 e => by
      simp only [Value.ownBlock, Option.toList_none, List.append_nil, List.mem_cons, List.not_mem_nil, or_false] at e
      rcases e with e | e
      · exact h1 e
      · exact h2 e
    refine ⟨rfl, pv, v', pv', [wrt fb (0 : Nat) bv'], [sure], by simpa using c5, ownsRow_of_block a2 fun k hk => c6.block k (a2.lt k hk).2 (kk k ?_ ?_), c6.at a3 (kk m0 (notin_types a3 a1 (by simp)) (notin_types a3 a5 (by simp))),
      c6.at a4 (kk m1 (notin_types a4 a1 (by simp)) (notin_types a4 a5 (by simp))), c1, a6.trans' c6 fun x hx hlt => ?_, a7, a8, a9, by simpa using c2, by simpa using c3, ⟨⟨bv', rfl, ownsRow_base c4 (Nat.zero_le _), by simp⟩, hx, hb, trivial⟩, by simp, by simp, fun k hk => ?_⟩
    · intro e; subst e; exact ownsRow_ne a2 a1 (by decide) hk
    · intro e; subst e; exact ownsRow_ne a2 a5 (by decide) hk
    · simp only [Value.ownBlock, Option.toList_none, List.append_nil, List.mem_cons, List.not_mem_nil, or_false] at hx; omega
    · rcases c7 with h | ⟨k', h, h2⟩
      · rw [h] at hk; simp [Value.ownBlock] at hk
      · rw [h] at hk; cases hk; omega
  · have h0 : sure = [] := List.eq_nil_of_length_eq_zero (by omega)
    subst h0
    refine (append_none a1 (by omega) (by omega) a3 (SK_x _) (lk_x _) isNm_x (by decide) a5 ua uc (by omega)).mono ?_
    rintro e w' ⟨rfl, c1, c2⟩
    refine ⟨rfl, pv, .slice none 0 0, .slice none 0 0, [], [], c1, ownsRow_of_block a2 fun k hk => c2.block k (a2.lt k hk).2 ?_, c2.at a3 (by simp; exact notin_types a3 a1 (by simp)), c2.at a4 (by simp; exact notin_types a4 a1 (by simp)), c2.at a5 (by simp [hfb]),
      a6.trans' c2 fun x hx hlt => by simp at hx; omega, a7, a8, a9, World.ownsRow_nil _ _ _ _, World.ownsRow_nil _ _ _ _, trivial, rfl, by simp, by simp [Value.ownBlock]⟩
    intro e; simp at e; subst e; exact ownsRow_ne a2 a1 (by decide) hk

theorem first_sync {w0 w : World} {b m0 m1 fb : Nat} {sure : List Value} (h : P4 w0 w b m0 m1 fb sure) (hl : sure.length ≤ 500) :
    Calls Try.prog 21 #[.pointer (some ⟨b, 0, none⟩), .string ⟨#[120]⟩] w fun e w' => e = .returned (.int .i64 0) ∧ P5 w0 w' b m0 m1 fb sure := by
  obtain ⟨pv, sv, fpv, ps, xss, a1, a2, a3, a4, a5, a6, a7, a8, a9, a10, a11, a12, a13, a14, a15⟩ := h
  have hs := a6.size
  refine (sync_c a1 (by omega) (by omega) a3 (SK_x _) (lk_x _) isNm_x (by decide) a5 (sure := []) (World.ownsRow_nil _ _ _ _) a11 a12 (by rw [a13]; simp; omega) (by omega)).mono ?_
  rintro e w' ⟨rfl, uv', c1, c2, c3, c4, c5⟩
  rw [List.nil_append, a13] at c3
  have kk : ∀ k, k ≠ b → k ≠ fb → k ∉ b :: fb :: (Value.slice none 0 0).ownBlock.toList := fun k h1 h2 e => by
    simp only [Value.ownBlock, Option.toList_none, List.mem_cons, List.not_mem_nil, or_false] at e
    rcases e with e | e
    · exact h1 e
    · exact h2 e
  have hu : ∀ k, uv'.ownBlock = some k → w.heap.size ≤ k := fun k hk => by
    rcases c5 with h | ⟨k', h, h2⟩
    · rw [h] at hk; simp [Value.ownBlock] at hk
    · rw [h] at hk; cases hk; omega
  refine ⟨rfl, pv, sv, uv', c1, ownsRow_of_block a2 fun k hk => c4.block k (a2.lt k hk).2 (kk k ?_ ?_), c4.at a3 (kk m0 (notin_types a3 a1 (by simp)) (notin_types a3 a5 (by simp))),
    c4.at a4 (kk m1 (notin_types a4 a1 (by simp)) (notin_types a4 a5 (by simp))), c2, a6.trans' c4 fun x hx hlt => ?_, a7, a8, a9, ownsRow_of_block a10 fun k hk => c4.block k (a10.lt k hk).2 (kk k ?_ ?_), c3, fun k hk => ⟨a15 k hk, fun e => ?_⟩, fun k hk => ?_⟩
  · intro e; subst e; exact ownsRow_ne a2 a1 (by decide) hk
  · intro e; subst e; exact ownsRow_ne a2 a5 (by decide) hk
  · simp only [Value.ownBlock, Option.toList_none, List.mem_cons, List.not_mem_nil, or_false] at hx; omega
  · intro e; subst e; exact ownsRow_ne a10 a1 (by decide) hk
  · intro e; subst e; exact ownsRow_ne a10 a5 (by decide) hk
  · have := hu k e; have := (a10.lt k hk).2; omega
  · have := hu k hk; omega

theorem first_syncDir {w0 w : World} {b m0 m1 fb : Nat} {sure : List Value} (h : P5 w0 w b m0 m1 fb sure) :
    Calls Try.prog 22 #[.pointer (some ⟨b, 0, none⟩)] w fun e w' => e = .returned (.int .i64 0) ∧ P6 w0 w' b m0 m1 fb sure := by
  obtain ⟨pv, sv, uv, a1, a2, a3, a4, a5, a6, a7, a8, a9, a10, a11, a12, a13⟩ := h
  refine (syncDir_one a1 (by omega) (by omega) a4 SK_nil rfl a2).mono ?_
  rintro e w' ⟨rfl, c1, c2, c3⟩
  have kk : ∀ k, k ≠ b → k ≠ m1 → k ∉ [b, m1] := fun k h1 h2 e => by
    simp at e; rcases e with e | e
    · exact h1 e
    · exact h2 e
  have hm : w'.heap[m0]? = some (.map (esX fb) 1) := by
    by_cases hmm : m0 = m1
    · subst hmm; exact c2
    · exact c3.at a3 (kk m0 (notin_types a3 a1 (by simp)) hmm)
  refine ⟨rfl, sv, uv, c1, hm, c2, c3.at a5 (kk fb (notin_types a5 a1 (by simp)) ?_), a6.trans' c3 fun x hx hlt => by simp at hx; omega, a7, a9, ownsRow_of_block a10 fun k hk => c3.block k (a10.lt k hk).2 (kk k ?_ ?_), ownsRow_of_block a11 fun k hk => c3.block k (a11.lt k hk).2 (kk k ?_ ?_), a12, a13⟩
  · intro e; subst e; unfold FB at a5; rw [a4] at a5; cases a5
  · intro e; subst e; exact ownsRow_ne a10 a1 (by decide) hk
  · intro e; subst e; exact ownsRow_nemap a10 a4 hk
  · intro e; subst e; exact ownsRow_ne a11 a1 (by decide) hk
  · intro e; subst e; exact ownsRow_nemap a11 a4 hk
end Go.Proofs.Ytiiielhhddfdpaa
