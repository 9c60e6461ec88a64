/-
  What the statements' own count and few answer.
-/
import Derived.Test.YtldhcdmoenoopaaIt
namespace Go.Proofs.Ytldhcdmoenoopaa
open Go.ChangeShapes Go.WideShapes Go.ChangeAt Go.RowKit

/-- What count tells: the count as far as it is at most 400. -/
def Cts (c d r : Nat) : Prop := (r ≤ 400 ∧ c = r) ∨ (400 < r ∧ 400 < c ∧ r ≤ 3000000000000 + 401 * (d + 1))
theorem sumc_take {α : Type} (f : α → Nat) {ks : List α} {j : Nat} {k : α} (h : ks[j]? = some k) : ((ks.take (j + 1)).map f).sum = ((ks.take j).map f).sum + f k := by
  rw [List.take_add_one, h]; simp [List.map_append]
theorem sumc_le {α : Type} (f : α → Nat) (ks : List α) (j : Nat) : ((ks.take j).map f).sum ≤ (ks.map f).sum := by
  have := congrArg (fun l => (l.map f).sum) (List.take_append_drop j ks)
  simp only [List.map_append, List.sum_append] at this
  omega

set_option maxRecDepth 20000 in
set_option maxHeartbeats 400000 in
theorem count_end (w : World) {l : Bool} {ba ka : Option Addr} {bl bc kl kc : Nat} (h0 : 0 < kl) : Calls Try.prog 19 #[.agg #[.bool l, .slice ba bl bc, .slice ka kl kc], .int .i64 0] w fun r w' => r = .returned (.int .i64 401) ∧ Fr [] w w' := by
  go_enter Try.func19, Try.ntmps19
  go_wp2
  go_ret
  exact ⟨rfl, (Fr.refl _ _).alloc _⟩

set_option maxRecDepth 20000 in
set_option maxHeartbeats 1600000 in
theorem count_step (w : World) {n d : Nat} {l : Bool} {ba ka : Option Addr} {bl bc kc : Nat} {ks : List (Tr n)} (hbl : bl ≤ 140737488355328) (hkl : ks.length ≤ kc) (hk : ks.length ≤ 140737488355328) (hd : d ≤ 18) (hdk : d = 0 → ks.length = 0)
    (hel : 0 < ks.length → ∃ kb ko, ka = some ⟨kb, ko, none⟩ ∧ ∀ (j : Nat) (x : Tr n), ks[j]? = some x → ∃ l bs' is', w.cell? ⟨kb, ko + j * 3, none⟩ = some (.bool l) ∧ w.cell? ⟨kb, ko + j * 3 + 1, none⟩ = some bs' ∧ w.cell? ⟨kb, ko + j * 3 + 2, none⟩ = some is' ∧ IsV w n (.agg #[.bool l, bs', is']) x)
    (ih : 0 < d → ∀ x ∈ ks, ∀ (w1 : World) (v1 : Value), IsV w1 n v1 x → Calls Try.prog 19 #[v1, .int .i64 ((d : Int) - 1)] w1 fun r w' => (∃ r' : Nat, r = .returned (.int .i64 (r' : Int)) ∧ Cts (cw n x) (d - 1) r') ∧ Fr [] w1 w') :
    Calls Try.prog 19 #[.agg #[.bool l, .slice ba bl bc, .slice ka ks.length kc], .int .i64 (d : Int)] w fun r w' => (∃ r' : Nat, r = .returned (.int .i64 (r' : Int)) ∧ Cts (1 + bl / 50 + (ks.map (cw n)).sum) d r') ∧ Fr [] w w' := by
  obtain ⟨L, hL⟩ : ∃ L, L = ks.length := ⟨_, rfl⟩
  rw [← hL] at hkl hk hel hdk ⊢
  have FA := hid ((Fr.refl [] w).alloc (.cells #[.bool l, .slice ba bl bc, .slice ka L kc] 25))
  have hA := hid (blk_new w (.cells #[.bool l, .slice ba bl bc, .slice ka L kc] 25))
  have HEL := hid hel
  have IH := hid ih
  have HL := hid hL
  have hq : Hid (((d : Int) == 0) = true → L = 0) := fun h => hdk (by have := beq_iff_eq.1 h; omega)
  obtain ⟨D, hD⟩ : ∃ D, D = 1 + bl / 50 := ⟨_, rfl⟩
  have hDb : 1 ≤ D ∧ D ≤ 3000000000000 := by omega
  have hDi : (1 : Int) + (bl : Int) / 50 = (D : Int) := by omega
  obtain ⟨S, hS⟩ : ∃ S, S = D + (ks.map (cw n)).sum := ⟨_, rfl⟩
  rw [← hD, ← hS]
  have HS := hid hS
  clear hel ih hL hdk hD hS
  generalize hwA : w.alloc (.cells #[.bool l, .slice ba bl bc, .slice ka L kc] 25) = wA at FA hA
  by_cases hz : L = 0
  · subst hz
    subst hwA
    have hks : Hid (ks = []) := List.eq_nil_of_length_eq_zero HL.out.symm
    go_enter Try.func19, Try.ntmps19
    go_wp2
    all_goals (refine wp_loop_rounds 1 ?_)
    all_goals (rw [rounds_succ])
    all_goals go_wp2
    all_goals go_ret
    all_goals (
      have hSD : S = D := by rw [HS.out, hks.out]; rfl
      refine ⟨⟨D, rfl, ?_⟩, FA.out⟩
      unfold Cts
      omega)
  · have hd0 : 0 < d := by
      rcases Nat.eq_zero_or_pos d with h | h
      · exact absurd (hq.out (by rw [h]; rfl)) hz
      · exact h
    have hdz : ((d : Int) == 0) = false := beq_eq_false_iff_ne.2 (by omega)
    have HSM := hid (fun j => sumc_le (cw n) ks j)
    have HWA := hid hwA
    clear hq hwA
    go_enter Try.func19, Try.ntmps19
    go_wp2
    rw [HWA.out]
    go_loopw [5, 6] (fun v5 v6 wr => ∃ (i r : Nat), i ≤ L ∧ v6 = .int .i64 (i : Int) ∧ v5 = .int .i64 (r : Int) ∧ Cts (D + ((ks.take i).map (cw n)).sum) d r ∧ Fr [] wA wr) (fun _ v6 _ => L - (intOf v6).toNat)
    case atStart => exact ⟨0, D, by omega, rfl, rfl, by unfold Cts; simp; omega, Fr.refl _ _⟩
    case round =>
      obtain ⟨i, r, hi, rfl, rfl, hc, hf⟩ := hrel
      have HC := hid hc
      have HF := hid hf
      have m2 := blk_cell (hf.at hA.out (by simp)) 2
      simp at m2
      have hrb : r ≤ 3000000000000 + 401 * (d + 1) := by unfold Cts at hc; omega
      clear hf hc
      by_cases hgo : i < L ∧ r ≤ 400
      · obtain ⟨h1, h2⟩ := hgo
        obtain ⟨x, hx⟩ : ∃ x, ks[i]? = some x := ⟨_, List.getElem?_eq_getElem (by rw [← HL.out]; exact h1)⟩
        have hxm : Hid (x ∈ ks) := List.mem_of_getElem? hx
        obtain ⟨kb, ko, hka, hl2⟩ := HEL.out (by omega)
        subst hka
        obtain ⟨l1, b1', i1', p1, p2, p3, p4⟩ := hl2 i x hx
        obtain ⟨x1, x2, x3, x4, x5, x6, rfl, rfl⟩ := p4.cells
        have q1 := cell_fr p1 (FA.out.trans HF.out)
        have q2 := cell_fr p2 (FA.out.trans HF.out)
        have q3 := cell_fr p3 (FA.out.trans HF.out)
        have P4 := hid (p4.fr (FA.out.trans HF.out))
        have HST := hid (sumc_take (cw n) hx)
        clear p1 p2 p3 p4 hl2 hx
        go_wp2_with fail
        refine (IH.out hd0 x hxm.out _ _ P4.out).mono ?_
        rintro e w5 ⟨⟨r', rfl, hr'⟩, f5⟩
        have F5 := hid (HF.out.trans f5)
        have HR' := hid hr'
        have hr'b : r' ≤ 3000000000000 + 401 * (d + 1) := by unfold Cts at hr'; omega
        clear f5 hr'
        go_wp2_with fail
        go_roundw
        case rel =>
          go_light
          refine ⟨i + 1, r + r', by omega, by go_num, by go_num, ?_, F5.out⟩
          rw [HST.out]
          have a1 := HC.out
          have a2 := HR'.out
          unfold Cts at a1 a2 ⊢
          omega
        case measure => go_light; simp [intOf]; omega
      · have hend : Hid (Cts S d r) := by
          have a1 := HC.out
          have a3 := HSM.out i
          unfold Hid
          rw [HS.out]
          by_cases hiL : i = L
          · rw [List.take_of_length_le (by rw [← HL.out]; omega)] at a1
            exact a1
          · unfold Cts at a1 ⊢
            omega
        by_cases h1 : i < L
        · have h2 : 400 < r := by omega
          go_wp2
          go_ret
          exact ⟨⟨r, rfl, hend.out⟩, FA.out.trans HF.out⟩
        · have h2 : L ≤ i := by omega
          go_wp2
          go_ret
          exact ⟨⟨r, rfl, hend.out⟩, FA.out.trans HF.out⟩

theorem count_c : ∀ (d : Nat) (w : World) (v : Value) (t : Tr (d + 1)), d ≤ 18 → IsV w (d + 1) v t → Calls Try.prog 19 #[v, .int .i64 (d : Int)] w fun r w' => (∃ r' : Nat, r = .returned (.int .i64 (r' : Int)) ∧ Cts (cw (d + 1) t) d r') ∧ Fr [] w w'
  | 0, w, v, t, hd, hv => by
    obtain ⟨bs, ka, kc, rfl, p2, _, p4, p5, p5', p6⟩ := hv
    obtain ⟨a, c, hb⟩ := p2.form
    rw [bv_len] at hb
    subst hb
    by_cases h0 : (tK t).length = 0
    · exact count_step (n := 0) w p4 p5 p5' (by omega) (fun _ => h0) (fun h => by omega) (fun h => by omega)
    · refine (count_end w (by omega)).mono ?_
      rintro r w' ⟨rfl, f⟩
      refine ⟨⟨401, rfl, ?_⟩, f⟩
      have : 401 ≤ ((tK t).map (cw 0)).sum := by
        rcases hk : tK t with _ | ⟨k, r⟩
        · rw [hk] at h0; simp at h0
        · simp [cw]
      show Cts (1 + (tB t).length / 50 + ((tK t).map (cw 0)).sum) 0 401
      unfold Cts; omega
  | d + 1, w, v, t, hd, hv => by
    obtain ⟨bs, ka, kc, rfl, p2, _, p4, p5, p5', p6⟩ := hv
    obtain ⟨a, c, hb⟩ := p2.form
    rw [bv_len] at hb
    subst hb
    exact count_step (n := d + 1) (d := d + 1) w p4 p5 p5' hd (fun h => by omega) p6 (fun _ x _ w1 v1 i1 => by
      have := count_c d w1 v1 x (by omega) i1
      rw [show ((d + 1 : Nat) : Int) - 1 = (d : Int) by omega]
      exact this)

set_option maxRecDepth 20000 in
set_option maxHeartbeats 400000 in
theorem few_c (w : World) {v : Value} {t : Tr 19} (hv : IsV w 19 v t) : Calls Try.prog 7 #[v] w fun r w' => r = .returned (.bool (decide (cw 19 t ≤ 400))) ∧ Fr [] w w' := by
  obtain ⟨l, a1, n1, c1, a2, n2, c2, rfl⟩ := hv.agg
  have HV := hid (hv.fr ((Fr.refl [] w).alloc (.cells #[.bool l, .slice a1 n1 c1, .slice a2 n2 c2] 25)))
  obtain ⟨C, hC⟩ : ∃ C, C = cw 19 t := ⟨_, rfl⟩
  rw [← hC]
  have HC := hid hC
  clear hv hC
  go_enter Try.func7, Try.ntmps7
  go_wp2_with fail
  refine (count_c 18 _ _ t (by omega) HV.out).mono ?_
  rintro e w1 ⟨⟨r, rfl, hr⟩, f1⟩
  rw [show cw (18 + 1) t = C from HC.out.symm] at hr
  have F1 := hid (((Fr.refl [] w).alloc (.cells #[.bool l, .slice a1 n1 c1, .slice a2 n2 c2] 25)).trans f1)
  have hb : Hid (decide (r ≤ 400) = decide (C ≤ 400)) := by
    unfold Cts at hr
    unfold Hid
    rw [decide_eq_decide]; omega
  have hrb : r ≤ 4000000000000 := by unfold Cts at hr; omega
  clear f1 hr
  go_wp2
  go_ret
  exact ⟨ret_bool (by rw [← hb.out]; exact decide_eq_decide.2 (by omega)), F1.out⟩
end Go.Proofs.Ytldhcdmoenoopaa
