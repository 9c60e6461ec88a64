/-
  What First and Decode of package rlp answer.
-/
import Derived.Test.YtbpnnchapfpamaaRe4
import Derived.Test.YtbpnnchapfpamaaFs2
namespace Go.Proofs.Ytbpnnchapfpamaa
open Go.ChangeShapes Go.WideShapes Go.ChangeAt Go.RowKit

theorem read_c {T g e k : Nat} : ∀ (n d : Nat) (w : World) (v : Value) (b : List Nat) (c : Nat), d + n = 17 → 1 ≤ d → Rd w v (bv b) → By b → b ≠ [] → b.length ≤ 100000 → Clo w 26 T g e k c → c ≤ 4096 →
    Calls Try.prog 26 #[v, .int .i64 (d : Int), .pointer (some ⟨e, 0, none⟩), .pointer (some ⟨k, 0, none⟩)] w fun r w' => ReadT w.heap.size n (rdT n b c) g r w' ∧ Fr [g] w w'
  | 0, d, w, v, b, c, hd, hd1, hr, hb, h0, hl, C, hc => by
    refine (read_deep w C v (.inl (by omega)) (by omega)).mono ?_
    rintro r w' ⟨h1, h2⟩
    exact ⟨h1, h2⟩
  | n + 1, d, w, v, b, c, hd, hd1, hr, hb, h0, hl, C, hc => by
    by_cases hc4 : c = 4096
    · refine (read_deep w C v (.inr hc4) (by omega)).mono ?_
      rintro r w' ⟨h1, h2⟩
      have e1 : rdT (n + 1) b c = .error 43 := by unfold rdT; rw [if_pos hc4]
      rw [e1]
      exact ⟨h1, h2⟩
    · rcases hh : hdr b with x | ⟨l, s, en⟩
      · have e1 : rdT (n + 1) b c = .error x := by unfold rdT; rw [if_neg hc4, hh]
        have hx0 : x ≠ 0 := by
          rcases rdT_err (n + 1) b c x hb h0 hc (by omega) e1 with h | h | h <;> omega
        rw [e1]
        refine (read_bad w C hr hb h0 hl (by omega) (by omega) hh hx0).mono ?_
        rintro r w' ⟨h1, h2⟩
        exact ⟨h1, h2⟩
      · rcases l with _ | _
        · have e1 : rdT (n + 1) b c = .ok (mkT false ((b.take en).drop s) [], en, c + 1) := by unfold rdT; rw [if_neg hc4, hh]; rfl
          rw [e1]
          refine (read_str (n := n + 3) w C hr hb h0 hl (by omega) (by omega) hh).mono ?_
          rintro r w' ⟨h1, h2⟩
          exact ⟨h1, h2⟩
        · refine (read_list (d := d) (n := n) w C hr hb h0 hl (by omega) (by omega) hh (by omega) (fun w1 v1 b1 c1 r1 y1 z1 l1 C1 q1 => ?_)).mono ?_
          · have := read_c n (d + 1) w1 v1 b1 c1 (by omega) (by omega) r1 y1 z1 l1 C1 q1
            rwa [show ((d + 1 : Nat) : Int) = (d : Int) + 1 by omega] at this
          · rintro r w' ⟨h1, h2⟩
            refine ⟨?_, h2⟩
            rcases hR : itemsR (rdT n) (en - s) ((b.take en).drop s) (c + 1) with x | ⟨ks, c'⟩
            · have e1 : rdT (n + 1) b c = .error x := by unfold rdT; rw [if_neg hc4, hh]; simp only [if_true]; rw [hR]
              rw [hR] at h1
              rw [e1]; exact h1
            · have e1 : rdT (n + 1) b c = .ok (mkT true [] ks, en, c') := by unfold rdT; rw [if_neg hc4, hh]; simp only [if_true]; rw [hR]
              rw [hR] at h1
              rw [e1]; exact h1

theorem first_c (w : World) {v : Value} {b : List Nat} (hr : Rd w v (bv b)) (hb : By b) (hl : b.length ≤ 140737488355328) : Calls Try.prog 15 #[v] w fun r w' => FirstT w.heap.size (firstL b) r w' ∧ Fr [] w w' := by
  obtain ⟨a, c, hv⟩ := hr.form
  rw [bv_len] at hv
  subst hv
  by_cases h1 : 65536 < b.length
  · have e : firstL b = .error 44 := by unfold firstL; rw [if_pos h1]
    rw [e]; exact first_long w h1 hl
  · by_cases h2 : b = []
    · have e : firstL b = .error 41 := by unfold firstL; rw [if_neg h1, if_pos h2]
      rw [e]; subst h2; exact first_none w
    · have e : firstL b = rdT 16 b 0 := by unfold firstL; rw [if_neg h1, if_neg h2]
      rw [e]
      exact first_at w (fun w1 T g e k C f _ => read_c 16 1 w1 _ b 0 (by omega) (by omega) (hr.fr f) hb h2 (by omega) C (by omega)) (List.length_pos_iff.2 h2) (by omega)
theorem decode_c (w : World) {v : Value} {b : List Nat} (hr : Rd w v (bv b)) (hb : By b) (hl : b.length ≤ 140737488355328) : Calls Try.prog 12 #[v] w fun r w' => DecT w.heap.size b.length (firstL b) r w' ∧ Fr [] w w' := by
  obtain ⟨a, c, hv⟩ := hr.form
  rw [bv_len] at hv
  subst hv
  refine decode_at w (fun w1 f1 => first_c w1 (hr.fr f1) hb hl) ?_ ?_
  · intro t k c' h
    obtain ⟨⟨_, _, _, k4, _⟩, k5⟩ := firstL_inv hb h
    omega
  · intro x h
    unfold firstL at h
    split at h
    · cases h; omega
    · split at h
      · cases h; omega
      · rcases rdT_err 16 b 0 x hb (by assumption) (by omega) (by omega) h with h | h | h <;> omega
end Go.Proofs.Ytbpnnchapfpamaa
