/-
  Numbers and frames one behind the other, without the walk of the statement; what Unframe and Take answer at their beginning.
-/
import Derived.Test.YtkphfacodacpkabLD
import Derived.Test.YtkphfacodacpkabO
namespace Go.Proofs.Ytkphfacodacpkab
open Go.ChangeShapes Go.WideShapes Go.ChangeAt Go.RowKit

/-- A frame, and the number behind it where there is one. -/
def seg (X : Nat → List Nat) (Y : Nat → Nat) (ln i : Nat) : List Nat := frameL (X i) ++ (if i < ln then putL (Y i) else [])
def restN (S : Nat → List Nat) : Nat → Nat → List Nat
  | _, 0 => []
  | i, m + 1 => S i ++ restN S (i + 1) m
theorem catN_rest (S : Nat → List Nat) : ∀ (m k : Nat), catN S k ++ restN S k m = catN S (k + m)
  | 0, k => by simp [restN]
  | m + 1, k => by
    rw [restN, ← List.append_assoc, show catN S k ++ S k = catN S (k + 1) from rfl, catN_rest S m (k + 1), show k + 1 + m = k + (m + 1) from by omega]
theorem restN_all (S : Nat → List Nat) (m : Nat) : restN S 0 m = catN S m := by
  have := catN_rest S m 0
  simpa [catN] using this
theorem restN_step (S : Nat → List Nat) {k len : Nat} (h : k < len) : restN S k (len - k) = S k ++ restN S (k + 1) (len - (k + 1)) := by
  rw [show len - k = (len - (k + 1)) + 1 from by omega]; rfl
theorem frameL_len (b : List Nat) : (frameL b).length = 4 + (putL b.length).length + b.length := by unfold frameL; simp only [List.length_append, fixL_len]
theorem frameL_by {b : List Nat} (hb : By b) : By (frameL b) := ((fixL_by 4 _).append (putL_by _)).append hb
theorem seg_by {X : Nat → List Nat} {Y : Nat → Nat} {ln i : Nat} (h : By (X i)) : By (seg X Y ln i) := by
  unfold seg
  refine (frameL_by h).append ?_
  split
  · exact putL_by _
  · intro n hn; simp at hn
theorem seg_len {X : Nat → List Nat} {Y : Nat → Nat} {ln i : Nat} (h : (X i).length ≤ 500) (hy : i < ln → Y i < 18446744073709551616) : (seg X Y ln i).length ≤ 600 := by
  unfold seg
  rw [List.length_append, frameL_len]
  have h1 := putL_len10 (n := (X i).length) (by omega)
  by_cases h2 : i < ln
  · rw [if_pos h2]
    have h3 := putL_len10 (hy h2)
    omega
  · rw [if_neg h2]; simp; omega
theorem restN_by {S : Nat → List Nat} : ∀ (m i : Nat), (∀ j, i ≤ j → j < i + m → By (S j)) → By (restN S i m)
  | 0, _, _ => fun n hn => by simp [restN] at hn
  | m + 1, i, h => (h i (Nat.le_refl _) (by omega)).append (restN_by m (i + 1) fun j h1 h2 => h j (by omega) (by omega))

/-- Unframe of a frame with whatever behind it. -/
theorem unframe_frame {w : World} {v : Value} {b more : List Nat} (hv : Rd w v (bv (frameL b ++ more))) (hb : By b) (hm : By more) (hl : b.length ≤ 500) (hl2 : more.length ≤ 100000) {F : Nat} (hF : F = (frameL b).length) :
    Calls Try.prog 12 #[v] w fun e' w' => ∃ v', e' = .returned (.tuple #[v', .int .i64 (F : Int), .int .i64 0]) ∧ w'.ownsRow w.heap.size 5 1 v' b.length (bv b) ∧ Fr [] w w' := by
  obtain ⟨p1, p2, p3, p4⟩ := frame_parts (h := fixL (crc b) 4) (b := b) (more := more) (fixL_len 4 _) (by omega)
  have hc : crc (((frameL b ++ more).drop (4 + (putL b.length).length)).take b.length) = unf ((frameL b ++ more).take 4) := by
    unfold frameL
    rw [p2, p3, unf_fixL, Nat.mod_eq_of_lt (show crc b < 256 ^ 4 from crc_lt hb)]
  have hpl := putL_len10 (n := b.length) (by omega)
  have hfl := frameL_len b
  refine (unframe_ok w hv ((frameL_by hb).append hm) (by rw [List.length_append]; omega) (by rw [List.length_append]; omega) p1 (by omega) p4 hc).mono ?_
  rintro e' w' ⟨v', rfl, o, f⟩
  refine ⟨v', ?_, ?_, f⟩
  · rw [hF, hfl]
  · have p2' : ((frameL b ++ more).drop (4 + (putL b.length).length)).take b.length = b := p2
    rw [p2'] at o; exact o
end Go.Proofs.Ytkphfacodacpkab
