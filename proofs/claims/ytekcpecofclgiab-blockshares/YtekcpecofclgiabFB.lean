/-
  BlockShares: the walk.
-/
import Derived.Test.YtekcpecofclgiabFA
namespace Go.Proofs.Ytekcpecofclgiab
open Go.ChangeShapes Go.WideShapes Go.ChangeAt Go.RowKit

theorem putL_one {n : Nat} (h : n < 128) : (putL n).length = 1 := by rw [putL_lt h]; rfl
theorem putL_two {n : Nat} (h1 : 128 ≤ n) (h2 : n ≤ 136) : (putL n).length = 2 := by
  rw [putL_ge h1, List.length_cons, putL_one (by omega)]
theorem ent_less {s : Nat} {k v : List Nat} (hs : s ≤ k.length) (hk : k.length ≤ 136) : (ent s k v).length ≤ (ent 0 k v).length := by
  unfold ent
  simp only [List.length_append, List.length_drop, Nat.sub_zero]
  rw [putL_one (show (0 : Nat) < 128 from by omega)]
  rcases Nat.lt_or_ge s 128 with h1 | h1
  · rw [putL_one h1]
    rcases Nat.lt_or_ge (k.length - s) 128 with h2 | h2
    · rw [putL_one h2]
      have := putL_pos k.length
      omega
    · rw [putL_two h2 (by omega), putL_two (n := k.length) (by omega) hk]
      omega
  · rw [putL_two h1 (by omega), putL_one (n := k.length - s) (by omega)]
    have := putL_pos k.length
    omega
theorem bod_shares {ps : Ps} (hr : Rises ps) (r t : Nat) : ∀ i, (bod (r * t) ps i).length ≤ (bod r ps i).length
  | 0 => Nat.le_refl _
  | i + 1 => by
    have ih := bod_shares hr r t i
    rw [bod, bod, List.length_append, List.length_append]
    have : (ent (shd (r * t) ps i) (kA ps i) (vA ps i)).length ≤ (ent (shd r ps i) (kA ps i) (vA ps i)).length := by
      by_cases h : i % r = 0
      · have e : shd r ps i = 0 := by unfold shd; rw [if_pos h]
        rw [e]
        exact ent_less (shd_le _ _ _).2 (kA_len hr i)
      · have h2 : ¬ i % (r * t) = 0 := fun e => h (by
          have := Nat.mod_mod_of_dvd i (Nat.dvd_mul_right r t)
          rw [e, Nat.zero_mod] at this
          exact this.symm)
        have e : shd (r * t) ps i = shd r ps i := by unfold shd; rw [if_neg h, if_neg h2]
        rw [e]; exact Nat.le_refl _
    omega
theorem plc_shares (ps : Ps) (r t : Nat) : ∀ i, (plc (r * t) ps i).length ≤ (plc r ps i).length
  | 0 => Nat.le_refl _
  | i + 1 => by
    have ih := plc_shares ps r t i
    rw [plc, plc]
    by_cases h : i % r = 0
    · rw [if_pos h, List.length_append, fixL_len]
      split
      · rw [List.length_append, fixL_len]; omega
      · omega
    · have h2 : ¬ i % (r * t) = 0 := fun e => h (by
        have := Nat.mod_mod_of_dvd i (Nat.dvd_mul_right r t)
        rw [e, Nat.zero_mod] at this
        exact this.symm)
      rw [if_neg h, if_neg h2]; exact ih
theorem blk_shares {ps : Ps} (hr : Rises ps) (r t : Nat) : (blk (r * t) ps).length ≤ (blk r ps).length := by
  have h1 := bod_shares hr r t ps.length
  have h2 := plc_shares ps r t ps.length
  unfold blk
  simp only [List.length_append, fixL_len]
  omega

set_option maxRecDepth 20000 in
set_option maxHeartbeats 3200000 in
theorem shares_c (w : World) {v : Value} {ps : Ps} (h : RdK w v ps) (hl : ps.length ≤ 140737488355328) (r t : Int) :
    Calls Try.prog 3 #[v, .int .i64 r, .int .i64 t] w fun e w' => e = .returned (.bool true) ∧ Fr [] w w' := by
  have HK := hid h
  have hform : ∃ a n c, v = .slice a n c := by obtain ⟨a, c, e, _⟩ := h; exact ⟨a, _, c, e⟩
  obtain ⟨a, n, c, rfl⟩ := hform
  have KN := hid (known_c w)
  clear h
  go_enter Try.func3, Try.ntmps3
  go_wp2_with fail
  refine KN.out.mono ?_
  rintro e w1 ⟨rfl, f1⟩
  have F1 := hid f1
  have FC := hid (few_c w1 (HK.out.fr f1) hl)
  clear f1 KN
  go_wp2_with fail
  refine FC.out.mono ?_
  rintro e w2 ⟨hq, f2⟩
  have F2 := hid (F1.out.trans f2)
  clear f2 FC
  rcases hq with rfl | ⟨rfl, hfew⟩
  · go_wp2
    go_ret
    exact ⟨rfl, F2.out⟩
  · have HFW := hid hfew
    clear hfew
    by_cases hr1 : r < 1
    · go_wp2
      go_ret
      exact ⟨rfl, F2.out⟩
    by_cases ht1 : t < 1
    · go_wp2
      go_ret
      exact ⟨rfl, F2.out⟩
    by_cases hr2 : 64 < r
    · go_wp2
      go_ret
      exact ⟨rfl, F2.out⟩
    by_cases ht2 : 64 < t
    · go_wp2
      go_ret
      exact ⟨rfl, F2.out⟩
    obtain ⟨rn, hrn⟩ : ∃ rn : Nat, r = (rn : Int) := ⟨r.toNat, by omega⟩
    obtain ⟨tn, htn⟩ : ∃ tn : Nat, t = (tn : Int) := ⟨t.toNat, by omega⟩
    subst hrn
    subst htn
    have hmul : (rn : Int) * (tn : Int) = ((rn * tn : Nat) : Int) := by simp
    have hbnd : rn * tn ≤ 64 * 64 := Nat.mul_le_mul (by omega) (by omega)
    have hpos : 1 ≤ rn * tn := Nat.mul_le_mul (show 1 ≤ rn from by omega) (show 1 ≤ tn from by omega)
    obtain ⟨m, hm⟩ : ∃ m, m = rn * tn := ⟨_, rfl⟩
    rw [← hm] at hmul hbnd hpos
    have HM := hid hm
    clear hm
    by_cases hm64 : 64 < m
    · have hm64' : (64 : Int) < (m : Int) := by omega
      go_wp2
      go_ret
      exact ⟨rfl, F2.out⟩
    have hm64' : ¬ (64 : Int) < (m : Int) := by omega
    by_cases hri : Rises ps
    · have HRI := hid hri
      have B1 := hid (build_ok w2 (HK.out.fr F2.out) (by have := HFW.out.n; omega) rn (by omega) (by omega) hri (by have := few_bod HFW.out.n HFW.out.t rn; omega))
      clear hri
      go_wp2_with fail
      refine B1.out.mono ?_
      rintro e w3 ⟨v3, rfl, o3, f3⟩
      obtain ⟨a3, c3, rfl, _⟩ := ownsRow_slice o3
      have F3 := hid (F2.out.trans f3)
      have B2 := hid (build_ok w3 (HK.out.fr F3.out) (by have := HFW.out.n; omega) m (by omega) (by omega) HRI.out (by have := few_bod HFW.out.n HFW.out.t m; omega))
      clear o3 f3 B1
      go_wp2_with fail
      refine B2.out.mono ?_
      rintro e w4 ⟨v4, rfl, o4, f4⟩
      obtain ⟨a4, c4, rfl, _⟩ := ownsRow_slice o4
      have F4 := hid (F3.out.trans f4)
      have hle : (blk m ps).length ≤ (blk rn ps).length := by rw [HM.out]; exact blk_shares HRI.out rn tn
      have hle' : ((blk m ps).length : Int) ≤ ((blk rn ps).length : Int) := by omega
      clear o4 f4 B2
      generalize (blk m ps).length = l1 at *
      generalize (blk rn ps).length = l2 at *
      go_wp2
      go_ret
      exact ⟨by simp <;> omega, F4.out⟩
    · have HRI := hid hri
      have B1 := hid (build_order w2 (HK.out.fr F2.out) (by have := HFW.out.n; omega) rn (by omega) (by omega) hri)
      clear hri
      go_wp2_with fail
      refine B1.out.mono ?_
      rintro e w3 ⟨rfl, f3⟩
      have F3 := hid (F2.out.trans f3)
      have B2 := hid (build_order w3 (HK.out.fr F3.out) (by have := HFW.out.n; omega) m (by omega) (by omega) HRI.out)
      clear f3 B1
      go_wp2_with fail
      refine B2.out.mono ?_
      rintro e w4 ⟨rfl, f4⟩
      have F4 := hid (F3.out.trans f4)
      clear f4 B2
      go_wp2
      go_ret
      exact ⟨by simp <;> omega, F4.out⟩
end Go.Proofs.Ytekcpecofclgiab
