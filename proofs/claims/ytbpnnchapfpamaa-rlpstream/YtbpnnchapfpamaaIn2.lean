/-
  slices.Insert of bytes of the call's own, in one word.
-/
import Derived.Test.YtbpnnchapfpamaaIn
namespace Go.Proofs.Ytbpnnchapfpamaa
open Go.ChangeShapes Go.WideShapes Go.ChangeAt Go.RowKit

theorem insert_c (w : World) {base base2 : Nat} (hbw : base ≤ w.heap.size) {v u : Value} {xs ys : List Nat} {i : Nat} (hs : w.ownsRow base 5 1 v xs.length (bv xs)) (hy : w.ownsRow base2 5 1 u ys.length (bv ys)) (hne : ∀ k, v.ownBlock = some k → u.ownBlock ≠ some k) (hi : i ≤ xs.length) (hl : xs.length + ys.length ≤ 140737488355328) :
    Calls Try.prog 33 #[v, .int .i64 (i : Int), u] w fun e w' => ∃ v', e = .returned v' ∧ w'.ownsRow base 5 1 v' (xs.length + ys.length) (bv (xs.take i ++ ys ++ xs.drop i)) ∧ w.grownBy w' v.ownBlock := by
  by_cases hm : ys.length = 0
  · have h0 : ys = [] := List.eq_nil_of_length_eq_zero hm
    subst h0
    obtain ⟨a, c, rfl, hc⟩ := ownsRow_slice hs
    obtain ⟨au, cu, rfl, _⟩ := ownsRow_slice hy
    refine (insert_none w rfl rfl hi hc (by omega) ?_).mono ?_
    · intro e
      subst e
      rcases hs.2 with ⟨h, _⟩ | ⟨g, cap, cur, h, _⟩
      · simp only [Value.slice.injEq] at h; exact ⟨h.2.2, h.2.1⟩
      · cases h
    · rintro e w' ⟨rfl, rfl⟩
      refine ⟨_, rfl, ?_, rfl, rfl, rfl, Nat.le_refl _, fun _ _ _ => rfl⟩
      rw [List.append_nil, List.take_append_drop]
      exact hs
  · by_cases hie : i = xs.length
    · subst hie
      refine (insert_end w hbw hs (Rd.ownB hy) (by omega) hl).mono ?_
      rintro e w' ⟨v', rfl, o, g⟩
      refine ⟨v', rfl, ?_, g⟩
      rw [List.take_length, List.drop_length, List.append_nil]
      exact o
    · rcases hs.2 with ⟨_, h0⟩ | ⟨g, c, cur, rfl, hb, hg, hnc, hcm, hsz, hx⟩
      · omega
      · rcases hy.2 with ⟨_, h0⟩ | ⟨gu, cu, curu, rfl, _, hgu, hncu, _, hszu, hyu⟩
        · omega
        · have hne' : gu ≠ g := fun e => hne g rfl (by rw [e]; rfl)
          rw [Nat.mul_one] at hsz hszu hx hyu
          by_cases hroom : xs.length + ys.length ≤ c
          · exact insert_shift w (cur := cur.toList) (curu := curu.toList) hb (by simpa using hg) (by simpa using hsz) hcm hx (by simpa using hgu) hyu hne' (by omega) (by omega) hroom
          · exact insert_grow w (cur := cur.toList) (curu := curu.toList) hbw (by simpa using hg) (by simpa using hsz) hnc hx (by simpa using hgu) hyu (by omega) (by omega) (by omega) hl
end Go.Proofs.Ytbpnnchapfpamaa
