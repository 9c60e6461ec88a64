/-
  The statements' few; a bound of what is laid down.
-/
import Derived.Test.YtekcpecofclgiaaBS
namespace Go.Proofs.Ytekcpecofclgiaa
open Go.ChangeShapes Go.WideShapes Go.ChangeAt Go.RowKit

def tot (ps : Ps) : Nat → Nat
  | 0 => 0
  | i + 1 => tot ps i + (kA ps i).length + (vA ps i).length
theorem tot_le (ps : Ps) : ∀ {i j : Nat}, i ≤ j → tot ps i ≤ tot ps j
  | i, 0, h => by have : i = 0 := by omega
                  subst this; exact Nat.le_refl _
  | i, j + 1, h => by
    rcases Nat.eq_or_lt_of_le h with e | h
    · subst e; exact Nat.le_refl _
    · have := tot_le ps (i := i) (j := j) (by omega)
      rw [tot]; omega
theorem ent_le {s : Nat} {k v : List Nat} (hs : s < 18446744073709551616) (hk : k.length < 18446744073709551616) (hv : v.length < 18446744073709551616) : (ent s k v).length ≤ 30 + k.length + v.length := by
  have h1 := putL_len10 hs
  have h2 := putL_len10 (n := k.length - s) (by omega)
  have h3 := putL_len10 hv
  unfold ent
  simp only [List.length_append, List.length_drop]
  omega
theorem bod_tot {ps : Ps} {r : Nat} (h : ∀ i, (kA ps i).length ≤ 1000000000000 ∧ (vA ps i).length ≤ 1000000000000) : ∀ i, (bod r ps i).length ≤ 30 * i + tot ps i
  | 0 => by simp [bod, tot]
  | i + 1 => by
    have ih := bod_tot h (r := r) i
    have hi := h i
    have := (shd_le r ps i).2
    have := ent_le (s := shd r ps i) (k := kA ps i) (v := vA ps i) (by omega) (by omega) (by omega)
    rw [bod, tot, List.length_append]
    omega
theorem tot_at (ps : Ps) {i n : Nat} (h : i < n) : (kA ps i).length + (vA ps i).length ≤ tot ps n := by
  have := tot_le ps (i := i + 1) (j := n) (by omega)
  rw [tot] at this
  omega
theorem small_all {ps : Ps} (h : tot ps ps.length ≤ 5000) : ∀ i, (kA ps i).length ≤ 5000 ∧ (vA ps i).length ≤ 5000 := fun i => by
  by_cases hi : i < ps.length
  · have := tot_at ps hi; omega
  · rw [(kA_out (by omega)).1, (kA_out (by omega)).2]; simp
theorem few_bod {ps : Ps} (h1 : ps.length ≤ 60) (h2 : tot ps ps.length ≤ 5000) (r : Nat) : (bod r ps ps.length).length ≤ 10000 := by
  have := bod_tot (ps := ps) (r := r) (fun i => by have := small_all h2 i; omega) ps.length
  omega

/-- Few entries. -/
structure Few (ps : Ps) : Prop where
  n : ps.length ≤ 60
  t : tot ps ps.length ≤ 5000
set_option maxRecDepth 20000 in
set_option maxHeartbeats 1600000 in
theorem few_c (w : World) {v : Value} {ps : Ps} (h : RdK w v ps) (hl : ps.length ≤ 140737488355328) :
    Calls Try.prog 10 #[v] w fun e w' => (e = .returned (.bool false) ∨ e = .returned (.bool true) ∧ Few ps) ∧ Fr [] w w' := by
  have HL := hid h.lens
  obtain ⟨a, c, rfl, hc, k1⟩ := h
  have H1 := hid k1
  clear k1
  obtain ⟨n, hn⟩ : ∃ n, n = ps.length := ⟨_, rfl⟩
  have HN := hid hn
  rw [← hn] at hl hc ⊢
  clear hn
  go_enter Try.func10, Try.ntmps10
  go_wp2_with fail
  go_loopw [3, 4] (fun v3 v4 wr => ∃ i : Nat, i ≤ n ∧ v4 = .int .i64 (i : Int) ∧ v3 = .int .i64 (tot ps i : Int) ∧ tot ps i ≤ 281474976715656 ∧ Fr [] w wr) (fun _ v4 _ => n - (intOf v4).toNat)
  case atStart => exact ⟨0, Nat.zero_le _, rfl, rfl, by simp [tot], Fr.refl _ _⟩
  case round =>
    obtain ⟨i, hi, rfl, rfl, ht, hf⟩ := hrel
    have HF := hid hf
    have htt1 : tot ps (i + 1) = tot ps i + (kA ps i).length + (vA ps i).length := rfl
    have HTT := hid htt1
    have HTN := hid (tot_le ps (i := i) (j := n) hi)
    clear hf htt1
    generalize htt : tot ps i = tt at *
    by_cases hgo : i < n ∧ tt ≤ 5000
    · obtain ⟨hlt, h5⟩ := hgo
      have hil : i < ps.length := by rw [← HN.out]; exact hlt
      obtain ⟨b, off, rfl, m1⟩ := H1.out (by omega)
      obtain ⟨ka, kc, va, vc, P⟩ := m1 i _ (ps_at hil)
      have z1 := cell_fr HF.out P.ck
      have z2 := cell_fr HF.out P.cv
      have hlk := P.lk
      have hlv := P.lv
      dsimp only at z1 z2 hlk hlv
      clear P m1 htt hil
      generalize (kA ps i).length = lk at *
      generalize (vA ps i).length = lv at *
      have hlt' : (i : Int) < (n : Int) := by omega
      have h5' : (tt : Int) ≤ 5000 := by omega
      have w1 : IntKind.i64.wrap ((tt : Int) + (lk : Int)) = (tt : Int) + (lk : Int) := by rw [IntKind.wrap_i64]; omega
      have w2 : IntKind.i64.wrap ((tt : Int) + (lk : Int) + (lv : Int)) = (tt : Int) + (lk : Int) + (lv : Int) := by rw [IntKind.wrap_i64]; omega
      go_upto_region 5 with fail
      go_quiet (fail)
      clear w1 w2
      go_wp2
      go_roundw
      case rel => exact ⟨i + 1, by omega, by go_num, by rw [HTT.out]; simp, by rw [HTT.out]; omega, HF.out.drewN _⟩
      case measure => simp [intOf]; omega
    · by_cases h60 : n ≤ 60
      · by_cases h5 : tt ≤ 5000
        · have hin : i = n := by omega
          subst hin
          go_wp2
          go_ret
          exact ⟨.inr ⟨by simp <;> omega, by rw [← HN.out]; omega, by rw [← HN.out, htt]; exact h5⟩, HF.out⟩
        · by_cases hlt : i < n
          all_goals
            go_wp2
            go_ret
            exact ⟨.inl (by simp <;> omega), HF.out⟩
      · by_cases hlt : i < n
        all_goals
          go_wp2
          all_goals
            go_ret
            exact ⟨.inl (by simp <;> omega), HF.out⟩
end Go.Proofs.Ytekcpecofclgiaa
