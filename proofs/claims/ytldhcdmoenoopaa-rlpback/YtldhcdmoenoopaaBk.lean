/-
  RlpBack without the program: what comes back, and that no encoding begins like another one.
-/
import Derived.Test.YtldhcdmoenoopaaJ11
import Derived.Test.YtldhcdmoenoopaaJ09
namespace Go.Proofs.Ytldhcdmoenoopaa

theorem bad_of_encE {t : Tr 19} (h : encE t = 0) : bad 19 1 t = 0 ∧ (enc 19 t).length ≤ 65536 ∧ encB t = enc 19 t := by
  refine ⟨?_, ?_, by unfold encB; rw [if_pos h]⟩
  · unfold encE at h
    by_cases hb : bad 19 1 t = 0
    · exact hb
    · rw [if_pos hb] at h; exact h
  · unfold encE at h
    by_cases hb : bad 19 1 t = 0
    · rw [if_neg (by rw [hb]; simp)] at h
      by_cases hl : 65536 < (enc 19 t).length
      · rw [if_pos hl] at h; omega
      · omega
    · rw [if_pos hb] at h; omega
/-- An item comes back from its bytes, with whatever behind. -/
theorem first_back {t : Tr 19} {more : List Nat} (h : encE t = 0) (hc : cw 19 t ≤ 400) (hl : (encB t).length + more.length ≤ 65536) : firstL (encB t ++ more) = .ok (t, (encB t).length, cnt 19 t) := by
  obtain ⟨h1, h2, h3⟩ := bad_of_encE h
  rw [h3] at hl ⊢
  exact firstL_back h1 (by have := cnt_cw 19 t; omega) hl
theorem first_self {t : Tr 19} (h : encE t = 0) (hc : cw 19 t ≤ 400) : firstL (encB t) = .ok (t, (encB t).length, cnt 19 t) := by
  obtain ⟨h1, h2, h3⟩ := bad_of_encE h
  have := first_back (more := []) h hc (by rw [h3]; simpa using h2)
  rwa [List.append_nil] at this
/-- No encoding begins like another one. -/
theorem no_begin {s t : Tr 19} (h1 : encE s = 0) (h2 : encE t = 0) (hs : cw 19 s ≤ 400) (ht : cw 19 t ≤ 400) (hl : (encB s).length < (encB t).length) : (encB t).take (encB s).length ≠ encB s := by
  intro e
  have e1 : encB t = encB s ++ (encB t).drop (encB s).length := by
    conv => lhs; rw [← List.take_append_drop (encB s).length (encB t)]
    rw [e]
  obtain ⟨_, k2, k3⟩ := bad_of_encE h2
  have hlen := congrArg List.length e1
  rw [List.length_append] at hlen
  have a := first_back (more := (encB t).drop (encB s).length) h1 hs (by rw [k3] at hlen; rw [k3]; omega)
  rw [← e1, first_self h2 ht] at a
  simp only [Except.ok.injEq, Prod.mk.injEq] at a
  omega
/-- What is read whole is written so. -/
theorem read_written {b : List Nat} (hb : By b) {t : Tr 19} {k c : Nat} (h : firstL b = .ok (t, k, c)) (hk : b.length ≤ k) : encE t = 0 ∧ encB t = b ∧ cnt 19 t ≤ 4096 ∧ (enc 19 t).length ≤ 65536 := by
  obtain ⟨⟨h1, h2, h3, h4, h5, h6, h7⟩, h8⟩ := firstL_inv hb h
  have e : enc 19 t = b := by rw [h1, List.take_of_length_le hk]
  have h0 : encE t = 0 := by unfold encE; rw [if_neg (by rw [h2]; simp), if_neg (by rw [e]; omega)]
  exact ⟨h0, by rw [(bad_of_encE h0).2.2, e], by omega, by rw [e]; omega⟩
end Go.Proofs.Ytldhcdmoenoopaa
