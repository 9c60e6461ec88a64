/-
  What measure of package rlp answers: an item's length, or its first fault.
-/
import Derived.Test.YtbpnnchapfpamaaIt
namespace Go.Proofs.Ytbpnnchapfpamaa
open Go.ChangeShapes Go.WideShapes Go.ChangeAt Go.RowKit

/-- The gate's counter and the two closures, in three blocks. -/
structure Clo (w : World) (F : Nat) (T : Nat) (g e k c : Nat) : Prop where
  cg : w.heap[g]? = some (.cells #[.int .i64 (c : Int)] 3 (0, 0))
  ce : w.heap[e]? = some (.cells #[.func (.func 36) #[] #[.pointer (some ⟨g, 0, none⟩)]] 57 (0, 0))
  ck : w.heap[k]? = some (.cells #[.func (.func F) #[] #[.pointer (some ⟨e, 0, none⟩), .pointer (some ⟨k, 0, none⟩)]] T (0, 0))
  eg : e ≠ g
  kg : k ≠ g
theorem Clo.step {w w' : World} {F T g e k c c' : Nat} (h : Clo w F T g e k c) (f : Fr [g] w w') (hg : w'.heap[g]? = some (.cells #[.int .i64 (c' : Int)] 3 (0, 0))) : Clo w' F T g e k c' :=
  ⟨hg, f.at h.ce (by simpa using h.eg), f.at h.ck (by simpa using h.kg), h.eg, h.kg⟩
theorem Clo.alloc {w : World} {F T g e k c : Nat} (h : Clo w F T g e k c) (o : Obj) : Clo (w.alloc o) F T g e k c :=
  ⟨by rw [blk_old w o (blk_lt h.cg)]; exact h.cg, by rw [blk_old w o (blk_lt h.ce)]; exact h.ce, by rw [blk_old w o (blk_lt h.ck)]; exact h.ck, h.eg, h.kg⟩

/-- What measure's closure tells. -/
def Told (n d : Nat) (t : Tr n) (g c : Nat) (r : Ending) (w' : World) : Prop :=
  (bad n d t = 0 ∧ r = .returned (.tuple #[.int .i64 ((enc n t).length : Int), .int .i64 0]) ∧ w'.heap[g]? = some (.cells #[.int .i64 ((c + cnt n t : Nat) : Int)] 3 (0, 0))) ∨
  (bad n d t ≠ 0 ∧ r = .returned (.tuple #[.int .i64 0, .int .i64 (bad n d t : Int)]))

theorem bad_le : ∀ (n d : Nat) (t : Tr n), bad n d t ≤ 43
  | 0, _, _ => by simp [bad]
  | n + 1, d, t => by
    unfold bad
    split
    · omega
    · split
      · omega
      · have : ∀ (l : List (Tr n)), firstBad (bad n (d + 1)) l ≤ 43 := by
          intro l
          induction l with
          | nil => simp [firstBad]
          | cons k r ih => unfold firstBad; split; exact ih; exact bad_le n (d + 1) k
        exact this _
theorem bad_deep (n : Nat) {d : Nat} (t : Tr n) (h : 16 < d) : bad n d t = 43 := by
  cases n with
  | zero => rfl
  | succ n => unfold bad; rw [if_pos h]
theorem bad_form {n d : Nat} {t : Tr (n + 1)} (h : d ≤ 16) (hf : (tL t = true ∧ tB t ≠ []) ∨ (tL t = false ∧ tK t ≠ [])) : bad (n + 1) d t = 40 := by
  unfold bad; rw [if_neg (by omega), if_pos hf]

set_option maxRecDepth 20000 in
set_option maxHeartbeats 400000 in
theorem walk_deep (w : World) {T g e k c d : Nat} (C : Clo w 31 T g e k c) (l : Bool) (bs is : Value) (hd : 16 < d) (hd2 : d ≤ 100000) :
    Calls Try.prog 31 #[.agg #[.bool l, bs, is], .int .i64 (d : Int), .pointer (some ⟨e, 0, none⟩), .pointer (some ⟨k, 0, none⟩)] w fun r w' => r = .returned (.tuple #[.int .i64 0, .int .i64 43]) ∧ Fr [g] w w' := by
  have C1 := C.alloc (.cells #[.bool l, bs, is] 25)
  have he := blk_cell C1.ce 0
  simp at he
  have HC := hid C1
  clear C C1
  go_enter Try.func31, Try.ntmps31
  go_wp2_with fail
  refine (gate_no _ HC.out.cg (.inl hd) hd2).mono ?_
  rintro r w1 ⟨rfl, rfl⟩
  go_wp2
  go_ret2
  exact ⟨rfl, (Fr.refl _ _).alloc _⟩
end Go.Proofs.Ytbpnnchapfpamaa
