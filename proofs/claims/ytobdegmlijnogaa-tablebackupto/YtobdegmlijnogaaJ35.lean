/-
  What the reference's Split answers.
-/
import Derived.Test.YtobdegmlijnogaaJ03
import Derived.Test.YtobdegmlijnogaaJ04
import Derived.Test.YtobdegmlijnogaaBE
import Derived.Test.YtobdegmlijnogaaJ18
import Derived.Test.YtobdegmlijnogaaJ25
namespace Go.Proofs.Ytobdegmlijnogaa
open Go.ChangeShapes Go.WideShapes Go.ChangeAt Go.RowKit

theorem results_tmp4' {fn : Func} {p q r s : Tmp} (h : fn.results = #[.tmp p, .tmp q, .tmp r, .tmp s]) (tmps : Array Value) (P : Program) (w : World) :
    (results fn tmps).run P w = .ok (.tuple #[tmps.getD p undef, tmps.getD q undef, tmps.getD r undef, tmps.getD s undef]) w := by
  simp only [results, h]
  simp

theorem take8 (b : List Nat) : (b.drop (b.length - 8)).take 8 = b.drop (b.length - 8) := List.take_of_length_le (by rw [List.length_drop]; omega)

set_option maxRecDepth 20000 in
set_option maxHeartbeats 800000 in
theorem refsplit_no (w : World) {v : Value} {b : List Nat} (hr : Rd w v (bv b)) (hb : By b) (hl : b.length ≤ 140737488355328) (h : isK b = false) :
    Calls Try.prog 38 #[v] w fun e w' => e = .returned (.tuple #[.slice none 0 0, .int .u64 0, .int .i64 0, .int .i64 23]) ∧ w' = w := by
  rcases (show b.length < 8 ∨ 136 < b.length ∨ (8 ≤ b.length ∧ b.length ≤ 136) from by omega) with q1 | q1 | ⟨q1, q2⟩
  · obtain ⟨a, c, hv⟩ := hr.form
    rw [bv_len] at hv
    subst hv
    clear hr hb h
    go_enter Try.func38, Try.ntmps38
    go_wp2
    exact bodyPost_ret (results_tmp4' rfl _ _ _) rfl ⟨rfl, rfl⟩
  · obtain ⟨a, c, hv⟩ := hr.form
    rw [bv_len] at hv
    subst hv
    clear hr hb h
    go_enter Try.func38, Try.ntmps38
    go_wp2
    exact bodyPost_ret (results_tmp4' rfl _ _ _) rfl ⟨rfl, rfl⟩
  · obtain ⟨qq, off, c, hv, h1⟩ := hr.place (by omega)
    subst hv
    have hf := refunfixed_c hr hb (b.length - 8) 8 (by omega) (by omega) hl
    rw [take8, show unf (b.drop (b.length - 8)) = tailN b from rfl, show ((b.length - 8 : Nat) : Int) = (b.length : Int) - 8 from by omega] at hf
    have ht1 := tailN_lt hb q1
    have ht2 : 1 < tailN b % 256 := by
      unfold isK at h
      rw [decide_eq_true q1, decide_eq_true q2, Bool.true_and, Bool.true_and, decide_eq_false_iff_not] at h
      have : ¬ tailN b % 256 ≤ 1 := h
      omega
    generalize tailN b = t at hf ht1 ht2
    have HF := hid hf
    clear hr hb h hf
    go_enter Try.func38, Try.ntmps38
    go_wp2_with fail
    refine HF.out.mono ?_
    rintro e w1 ⟨rfl, rfl⟩
    go_wp2
    exact bodyPost_ret (results_tmp4' rfl _ _ _) rfl ⟨rfl, rfl⟩

set_option maxRecDepth 20000 in
set_option maxHeartbeats 800000 in
theorem refsplit_yes (w : World) {q off c : Nat} {b : List Nat} (hr : Rd w (.slice (some ⟨q, off, none⟩) b.length c) (bv b)) (hb : By b) (h1 : b.length ≤ c) (h : isK b = true) :
    Calls Try.prog 38 #[.slice (some ⟨q, off, none⟩) b.length c] w fun e w' => e = .returned (.tuple #[.slice (some ⟨q, off, none⟩) (b.length - 8) c, .int .u64 ((tailN b / 256 : Nat) : Int), .int .i64 ((tailN b % 256 : Nat) : Int), .int .i64 0]) ∧ w' = w := by
  obtain ⟨k1, k2, k3⟩ := isK_len h
  have hf := refunfixed_c hr hb (b.length - 8) 8 (by omega) (by omega) (by omega)
  rw [take8, show unf (b.drop (b.length - 8)) = tailN b from rfl, show ((b.length - 8 : Nat) : Int) = (b.length : Int) - 8 from by omega] at hf
  have ht1 := tailN_lt hb k1
  generalize tailN b = t at hf ht1 k3 ⊢
  have HF := hid hf
  clear hr hb h hf
  go_enter Try.func38, Try.ntmps38
  go_wp2_with fail
  refine HF.out.mono ?_
  rintro e w1 ⟨rfl, rfl⟩
  go_wp2
  refine bodyPost_ret (results_tmp4' rfl _ _ _) rfl ⟨?_, rfl⟩
  rw [show ((t / 256 : Nat) : Int) = (t : Int) / 256 from by omega, show ((t % 256 : Nat) : Int) = (t : Int) % 256 from by omega]
  rfl
end Go.Proofs.Ytobdegmlijnogaa
namespace Go.Proofs.Ytobdegmlijnogaa
open Go.ChangeShapes Go.WideShapes Go.ChangeAt Go.RowKit

set_option maxRecDepth 20000 in
set_option maxHeartbeats 1600000 in
theorem refbytes_c {w : World} {v1 v2 : Value} {a b : List Nat} (h1 : Rd w v1 (bv a)) (h2 : Rd w v2 (bv b)) (ha : By a) (hb : By b) (hl1 : a.length ≤ 140737488355328) (hl2 : b.length ≤ 140737488355328) :
    Calls Try.prog 17 #[v1, v2] w fun e w' => e = .returned (.int .i64 (cmpN a b)) ∧ Fr [] w w' := by
  have hlo : a = [] ∨ b = [] ∨ (0 < a.length ∧ 0 < b.length) := by
    cases a with
    | nil => exact .inl rfl
    | cons => cases b with
      | nil => exact .inr (.inl rfl)
      | cons => exact .inr (.inr (by simp))
  rcases hlo with rfl | rfl | ⟨p1, p2⟩
  · obtain ⟨a1, c1, hv1⟩ := h1.form
    obtain ⟨a2, c2, hv2⟩ := h2.form
    rw [bv_len] at hv1 hv2
    subst hv1
    subst hv2
    clear h1 h2 ha hb
    cases b with
    | nil =>
      go_enter Try.func17, Try.ntmps17
      go_wp2
      refine wp_loop_rounds 1 ?_
      rw [rounds_succ]
      go_wp2
      go_ret
      exact ⟨rfl, Fr.refl _ _⟩
    | cons y b =>
      have hc : cmpN [] (y :: b) = -1 := rfl
      rw [hc]
      have hp : 0 < (y :: b).length := by simp
      generalize (y :: b).length = n at *
      go_enter Try.func17, Try.ntmps17
      go_wp2
      refine wp_loop_rounds 1 ?_
      rw [rounds_succ]
      go_wp2
      go_ret
      exact ⟨rfl, Fr.refl _ _⟩
  · obtain ⟨a1, c1, hv1⟩ := h1.form
    obtain ⟨a2, c2, hv2⟩ := h2.form
    rw [bv_len] at hv1 hv2
    subst hv1
    subst hv2
    clear h1 h2 ha hb
    cases a with
    | nil =>
      go_enter Try.func17, Try.ntmps17
      go_wp2
      refine wp_loop_rounds 1 ?_
      rw [rounds_succ]
      go_wp2
      go_ret
      exact ⟨rfl, Fr.refl _ _⟩
    | cons y a =>
      have hc : cmpN (y :: a) [] = 1 := rfl
      rw [hc]
      have hp : 0 < (y :: a).length := by simp
      generalize (y :: a).length = n at *
      go_enter Try.func17, Try.ntmps17
      go_wp2
      refine wp_loop_rounds 1 ?_
      rw [rounds_succ]
      go_wp2
      go_ret
      exact ⟨rfl, Fr.refl _ _⟩
  · rcases h1.split with ⟨rfl, _⟩ | ⟨q, off, c, rfl, g1, _, hc⟩
    · simp at p1
    rcases h2.split with ⟨rfl, _⟩ | ⟨q2, off2, c2, rfl, g2, _, hc2⟩
    · simp at p2
    have HC := hid hc
    have HC2 := hid hc2
    clear h1 h2 ha hb hc hc2
    go_enter Try.func17, Try.ntmps17
    go_wp2
    go_loopw [5] (fun v5 wr => ∃ i : Nat, i ≤ a.length ∧ i ≤ b.length ∧ v5 = .int .i64 (i : Int) ∧ cmpN (a.drop i) (b.drop i) = cmpN a b ∧ Fr [] w wr) (fun v5 _ => a.length - (intOf v5).toNat)
    case atStart => exact ⟨0, by omega, by omega, rfl, rfl, Fr.refl _ _⟩
    case round =>
      obtain ⟨i, hi1, hi2, rfl, hcm, hf⟩ := hrel
      have HCM := hid hcm
      have HF := hid hf
      clear hcm hf
      by_cases hlt : i < a.length
      · by_cases hlt2 : i < b.length
        · obtain ⟨x, hx, hd⟩ := drop_at hlt
          obtain ⟨y, hy, hd2⟩ := drop_at hlt2
          have k1 : wr.cell? ⟨q, off + i, none⟩ = some (.int .u8 (x : Int)) := by
            have h6 := HC.out i x hx
            rw [World.cell?_of_block (w := w) (HF.out.block _ (World.block_lt_of_cell? w _ h6) (by simp))]; exact h6
          have k2 : wr.cell? ⟨q2, off2 + i, none⟩ = some (.int .u8 (y : Int)) := by
            have h6 := HC2.out i y hy
            rw [World.cell?_of_block (w := w) (HF.out.block _ (World.block_lt_of_cell? w _ h6) (by simp))]; exact h6
          have j1 : (i : Int) < (a.length : Int) := by omega
          have j2 : (i : Int) < (b.length : Int) := by omega
          have HD := hid hd
          have HD2 := hid hd2
          clear hd hd2 hx hy
          rcases Nat.lt_trichotomy x y with hxy | hxy | hxy
          · have e0 : ((x : Int) == (y : Int)) = false := by simp; omega
            have e1 : (x : Int) < (y : Int) := by omega
            have HR : Hid (cmpN a b = -1) := by unfold Hid; rw [← HCM.out, HD.out, HD2.out, cmpN, if_pos hxy]
            clear hxy
            go_wp2_with fail
            go_quiet (fail)
            go_wp2_with fail
            go_quiet (fail)
            go_wp2
            go_ret
            exact ⟨by rw [HR.out]; rfl, (HF.out.drewN _).drewN _⟩
          · have e0 : ((x : Int) == (y : Int)) = true := by simp; omega
            have HR : Hid (cmpN (a.drop (i + 1)) (b.drop (i + 1)) = cmpN a b) := by unfold Hid; rw [← HCM.out, HD.out, HD2.out, cmpN, if_neg (by omega), if_neg (by omega)]
            clear hxy
            go_wp2_with fail
            go_quiet (fail)
            go_wp2
            go_roundw
            case rel => exact ⟨i + 1, by omega, by omega, by go_num, HR.out, HF.out.drewN _⟩
            case measure => simp [intOf]; omega
          · have e0 : ((x : Int) == (y : Int)) = false := by simp; omega
            have e1 : decide ((x : Int) < (y : Int)) = false := by simp; omega
            have e2 : decide (x < y) = false := by simp; omega
            have HR : Hid (cmpN a b = 1) := by unfold Hid; rw [← HCM.out, HD.out, HD2.out, cmpN, if_neg (by omega), if_pos hxy]
            clear hxy
            go_wp2_with fail
            go_quiet (fail)
            go_wp2_with fail
            go_quiet (fail)
            go_wp2
            go_ret
            exact ⟨by rw [HR.out]; rfl, (HF.out.drewN _).drewN _⟩
        · have hib : i = b.length := by omega
          have HR : Hid (cmpN a b = 1) := by
            obtain ⟨x, hx, hd⟩ := drop_at hlt
            have hn : b.drop i = [] := List.drop_eq_nil_of_le (by omega)
            unfold Hid; rw [← HCM.out, hd, hn]; rfl
          have j1 : (i : Int) < (a.length : Int) := by omega
          have j2 : (b.length : Int) < (a.length : Int) := by omega
          go_wp2
          go_ret
          exact ⟨by rw [HR.out]; rfl, HF.out⟩
      · have hia : i = a.length := by omega
        by_cases hlt2 : i < b.length
        · have HR : Hid (cmpN a b = -1) := by
            obtain ⟨x, hx, hd⟩ := drop_at hlt2
            have hn : a.drop i = [] := List.drop_eq_nil_of_le (by omega)
            unfold Hid; rw [← HCM.out, hd, hn]; rfl
          have j2 : (a.length : Int) < (b.length : Int) := by omega
          go_wp2
          go_ret
          exact ⟨by rw [HR.out]; rfl, HF.out⟩
        · have HR : Hid (cmpN a b = 0) := by
            have hn : a.drop i = [] := List.drop_eq_nil_of_le (by omega)
            have hn2 : b.drop i = [] := List.drop_eq_nil_of_le (by omega)
            unfold Hid; rw [← HCM.out, hn, hn2]; rfl
          have j2 : b.length ≤ a.length := by omega
          have j3 : a.length ≤ b.length := by omega
          go_wp2
          go_ret
          exact ⟨by rw [HR.out]; rfl, HF.out⟩
end Go.Proofs.Ytobdegmlijnogaa
namespace Go.Proofs.Ytobdegmlijnogaa
open Go.ChangeShapes Go.WideShapes Go.ChangeAt Go.RowKit


end Go.Proofs.Ytobdegmlijnogaa
namespace Go.Proofs.Ytobdegmlijnogaa
open Go.ChangeShapes Go.WideShapes Go.ChangeAt Go.RowKit

theorem dq1 {w wr : World} (h : ∃ n, wr = w.drewN n) (m : Nat) : ∃ n, wr.drewN m = w.drewN n := by
  obtain ⟨n, rfl⟩ := h
  exact ⟨n + m, by rw [World.drewN_drewN]⟩
theorem dq2 {w wr : World} (h : ∃ n, wr = w.drewN n) (m k : Nat) : ∃ n, (wr.drewN m).drewN k = w.drewN n := dq1 (dq1 h m) k
set_option maxRecDepth 20000 in
set_option maxHeartbeats 1600000 in
theorem refbytes_q {w : World} {v1 v2 : Value} {a b : List Nat} (h1 : Rd w v1 (bv a)) (h2 : Rd w v2 (bv b)) (ha : By a) (hb : By b) (hl1 : a.length ≤ 140737488355328) (hl2 : b.length ≤ 140737488355328) :
    Calls Try.prog 17 #[v1, v2] w fun e w' => e = .returned (.int .i64 (cmpN a b)) ∧ ∃ n, w' = w.drewN n := by
  have hlo : a = [] ∨ b = [] ∨ (0 < a.length ∧ 0 < b.length) := by
    cases a with
    | nil => exact .inl rfl
    | cons => cases b with
      | nil => exact .inr (.inl rfl)
      | cons => exact .inr (.inr (by simp))
  rcases hlo with rfl | rfl | ⟨p1, p2⟩
  · obtain ⟨a1, c1, hv1⟩ := h1.form
    obtain ⟨a2, c2, hv2⟩ := h2.form
    rw [bv_len] at hv1 hv2
    subst hv1
    subst hv2
    clear h1 h2 ha hb
    cases b with
    | nil =>
      go_enter Try.func17, Try.ntmps17
      go_wp2
      refine wp_loop_rounds 1 ?_
      rw [rounds_succ]
      go_wp2
      go_ret
      exact ⟨rfl, 0, rfl⟩
    | cons y b =>
      have hc : cmpN [] (y :: b) = -1 := rfl
      rw [hc]
      have hp : 0 < (y :: b).length := by simp
      generalize (y :: b).length = n at *
      go_enter Try.func17, Try.ntmps17
      go_wp2
      refine wp_loop_rounds 1 ?_
      rw [rounds_succ]
      go_wp2
      go_ret
      exact ⟨rfl, 0, rfl⟩
  · obtain ⟨a1, c1, hv1⟩ := h1.form
    obtain ⟨a2, c2, hv2⟩ := h2.form
    rw [bv_len] at hv1 hv2
    subst hv1
    subst hv2
    clear h1 h2 ha hb
    cases a with
    | nil =>
      go_enter Try.func17, Try.ntmps17
      go_wp2
      refine wp_loop_rounds 1 ?_
      rw [rounds_succ]
      go_wp2
      go_ret
      exact ⟨rfl, 0, rfl⟩
    | cons y a =>
      have hc : cmpN (y :: a) [] = 1 := rfl
      rw [hc]
      have hp : 0 < (y :: a).length := by simp
      generalize (y :: a).length = n at *
      go_enter Try.func17, Try.ntmps17
      go_wp2
      refine wp_loop_rounds 1 ?_
      rw [rounds_succ]
      go_wp2
      go_ret
      exact ⟨rfl, 0, rfl⟩
  · rcases h1.split with ⟨rfl, _⟩ | ⟨q, off, c, rfl, g1, _, hc⟩
    · simp at p1
    rcases h2.split with ⟨rfl, _⟩ | ⟨q2, off2, c2, rfl, g2, _, hc2⟩
    · simp at p2
    have HC := hid hc
    have HC2 := hid hc2
    clear h1 h2 ha hb hc hc2
    go_enter Try.func17, Try.ntmps17
    go_wp2
    go_loopw [5] (fun v5 wr => ∃ i : Nat, i ≤ a.length ∧ i ≤ b.length ∧ v5 = .int .i64 (i : Int) ∧ cmpN (a.drop i) (b.drop i) = cmpN a b ∧ ∃ n, wr = w.drewN n) (fun v5 _ => a.length - (intOf v5).toNat)
    case atStart => exact ⟨0, by omega, by omega, rfl, rfl, 0, rfl⟩
    case round =>
      obtain ⟨i, hi1, hi2, rfl, hcm, hf⟩ := hrel
      have HCM := hid hcm
      have HF := hid hf
      clear hcm hf
      by_cases hlt : i < a.length
      · by_cases hlt2 : i < b.length
        · obtain ⟨x, hx, hd⟩ := drop_at hlt
          obtain ⟨y, hy, hd2⟩ := drop_at hlt2
          have k1 : wr.cell? ⟨q, off + i, none⟩ = some (.int .u8 (x : Int)) := by
            have h6 := HC.out i x hx
            obtain ⟨nn, hnn⟩ := HF.out; rw [hnn, World.cell?_of_block (w := w) (by rw [heap_drewN])]; exact h6
          have k2 : wr.cell? ⟨q2, off2 + i, none⟩ = some (.int .u8 (y : Int)) := by
            have h6 := HC2.out i y hy
            obtain ⟨nn, hnn⟩ := HF.out; rw [hnn, World.cell?_of_block (w := w) (by rw [heap_drewN])]; exact h6
          have j1 : (i : Int) < (a.length : Int) := by omega
          have j2 : (i : Int) < (b.length : Int) := by omega
          have HD := hid hd
          have HD2 := hid hd2
          clear hd hd2 hx hy
          rcases Nat.lt_trichotomy x y with hxy | hxy | hxy
          · have e0 : ((x : Int) == (y : Int)) = false := by simp; omega
            have e1 : (x : Int) < (y : Int) := by omega
            have HR : Hid (cmpN a b = -1) := by unfold Hid; rw [← HCM.out, HD.out, HD2.out, cmpN, if_pos hxy]
            clear hxy
            go_wp2_with fail
            go_quiet (fail)
            go_wp2_with fail
            go_quiet (fail)
            go_wp2
            go_ret
            exact ⟨by rw [HR.out]; rfl, dq2 HF.out _ _⟩
          · have e0 : ((x : Int) == (y : Int)) = true := by simp; omega
            have HR : Hid (cmpN (a.drop (i + 1)) (b.drop (i + 1)) = cmpN a b) := by unfold Hid; rw [← HCM.out, HD.out, HD2.out, cmpN, if_neg (by omega), if_neg (by omega)]
            clear hxy
            go_wp2_with fail
            go_quiet (fail)
            go_wp2
            go_roundw
            case rel => exact ⟨i + 1, by omega, by omega, by go_num, HR.out, dq1 HF.out _⟩
            case measure => simp [intOf]; omega
          · have e0 : ((x : Int) == (y : Int)) = false := by simp; omega
            have e1 : decide ((x : Int) < (y : Int)) = false := by simp; omega
            have e2 : decide (x < y) = false := by simp; omega
            have HR : Hid (cmpN a b = 1) := by unfold Hid; rw [← HCM.out, HD.out, HD2.out, cmpN, if_neg (by omega), if_pos hxy]
            clear hxy
            go_wp2_with fail
            go_quiet (fail)
            go_wp2_with fail
            go_quiet (fail)
            go_wp2
            go_ret
            exact ⟨by rw [HR.out]; rfl, dq2 HF.out _ _⟩
        · have hib : i = b.length := by omega
          have HR : Hid (cmpN a b = 1) := by
            obtain ⟨x, hx, hd⟩ := drop_at hlt
            have hn : b.drop i = [] := List.drop_eq_nil_of_le (by omega)
            unfold Hid; rw [← HCM.out, hd, hn]; rfl
          have j1 : (i : Int) < (a.length : Int) := by omega
          have j2 : (b.length : Int) < (a.length : Int) := by omega
          go_wp2
          go_ret
          exact ⟨by rw [HR.out]; rfl, HF.out⟩
      · have hia : i = a.length := by omega
        by_cases hlt2 : i < b.length
        · have HR : Hid (cmpN a b = -1) := by
            obtain ⟨x, hx, hd⟩ := drop_at hlt2
            have hn : a.drop i = [] := List.drop_eq_nil_of_le (by omega)
            unfold Hid; rw [← HCM.out, hd, hn]; rfl
          have j2 : (a.length : Int) < (b.length : Int) := by omega
          go_wp2
          go_ret
          exact ⟨by rw [HR.out]; rfl, HF.out⟩
        · have HR : Hid (cmpN a b = 0) := by
            have hn : a.drop i = [] := List.drop_eq_nil_of_le (by omega)
            have hn2 : b.drop i = [] := List.drop_eq_nil_of_le (by omega)
            unfold Hid; rw [← HCM.out, hn, hn2]; rfl
          have j2 : b.length ≤ a.length := by omega
          have j3 : a.length ≤ b.length := by omega
          go_wp2
          go_ret
          exact ⟨by rw [HR.out]; rfl, HF.out⟩
end Go.Proofs.Ytobdegmlijnogaa
namespace Go.Proofs.Ytobdegmlijnogaa
open Go.ChangeShapes Go.WideShapes Go.ChangeAt Go.RowKit

end Go.Proofs.Ytobdegmlijnogaa
namespace Go.Proofs.Ytobdegmlijnogaa
open Go.ChangeShapes Go.WideShapes Go.ChangeAt Go.RowKit

theorem infoI : (Try.prog.info? 3).map (fun i => (i.zero, i.size, i.bytes)) = some (some (.int .i64 0), 1, 8) := by kernel_rfl
theorem wpList_append_i {w : World} {ops : Array Oper} {rest : List Oper} {o : Oper} {a : Act} {Q : Exit → Act → World → Prop} (hgd : o.guard = none) (s x : Operand)
    (ho : o.op = .call { callee := .builtin .append, args := #[s, x], argTypes := #[122, 122] }) (base : Nat) (hbase : base ≤ w.heap.size) (v : Value) (n : Nat) (xs : List Value) (hs : a.eval s = v) (hown : w.ownsRow base 3 1 v n xs) (G : Nat) (hx : a.eval x = .slice (some ⟨G, 0, none⟩) 1 1) {u : Value} {T : TypeId} (hG : w.heap[G]? = some (.cells #[u] T (0, 0)))
    (hu : u.oneCell' = true) (hl : n ≤ 100000000000)
    (h : ∀ v' w', w'.ownsRow base 3 1 v' (n + 1) (xs ++ [u]) → w.grownBy w' v.ownBlock → wpList Try.prog ops Q rest (a.put o.dst v') w') :
    wpList Try.prog ops Q (o :: rest) a w := by
  obtain ⟨i0, hi, hz0, hz1, hz2⟩ := info_parts infoI
  refine wpList_append_own_at w hgd s x 122 ho base 3 i0 _ 1 8 Try.underlying122 hi hz0 hz1 hz2 rfl (by decide) v n xs hs hown ⟨G, 0, none⟩ 1 1 [u] hx rfl ?_ ?_ (by unfold maxLen; omega) (by omega) hbase fun v' w' h1 h2 _ _ => h v' w' h1 h2
  · intro j u' hj
    rw [Addr.add_lit, Nat.zero_add, blk_cell hG, ← Array.getElem?_toList]
    exact hj
  · intro u' hu'
    simp at hu'
    subst hu'; exact hu
/-- The places of restarts, as numbers. -/
def atL (r : Nat) (ps : Ps) : Nat → List Nat
  | 0 => []
  | i + 1 => if i % r = 0 then atL r ps i ++ [(bod r ps i).length] else atL r ps i
theorem atL_plc (r : Nat) (ps : Ps) : ∀ i, plc r ps i = (atL r ps i).flatMap (fun n => fixL n 4)
  | 0 => rfl
  | i + 1 => by
    rw [plc, atL]
    split
    · rw [List.flatMap_append, ← atL_plc r ps i]; simp
    · exact atL_plc r ps i
theorem atL_len (r : Nat) (ps : Ps) (i : Nat) : (atL r ps i).length = (plc r ps i).length / 4 := by
  rw [atL_plc]
  generalize atL r ps i = l
  induction l with
  | nil => rfl
  | cons x l ih => rw [List.flatMap_cons, List.length_append, fixL_len, List.length_cons, ih]; omega
theorem atL_le (r : Nat) (ps : Ps) : ∀ i, (atL r ps i).length ≤ i
  | 0 => Nat.le_refl _
  | i + 1 => by
    rw [atL]
    have := atL_le r ps i
    split
    · rw [List.length_append]; simp; omega
    · omega
def iv (l : List Nat) : List Value := l.map fun (n : Nat) => .int .i64 (n : Int)
end Go.Proofs.Ytobdegmlijnogaa
namespace Go.Proofs.Ytobdegmlijnogaa
open Go.ChangeShapes Go.WideShapes Go.ChangeAt Go.RowKit

def catF (l : List Nat) : List Nat := l.flatMap fun n => fixL n 4
theorem catF_len (l : List Nat) : (catF l).length = 4 * l.length := by
  unfold catF
  induction l with
  | nil => rfl
  | cons x l ih => rw [List.flatMap_cons, List.length_append, fixL_len, ih, List.length_cons]; omega
theorem atL_bd (r : Nat) (ps : Ps) : ∀ i, ∀ p ∈ atL r ps i, p ≤ (bod r ps i).length
  | 0, p, h => by simp [atL] at h
  | i + 1, p, h => by
    have hm := bod_le r ps (i := i) (j := i + 1) (by omega)
    rw [atL] at h
    split at h
    · rw [List.mem_append] at h
      rcases h with h | h
      · exact Nat.le_trans (atL_bd r ps i p h) hm
      · simp at h; omega
    · exact Nat.le_trans (atL_bd r ps i p h) hm
theorem own_keep {W W' : World} {B B' s s' n m : Nat} {e e' : TypeId} {v u : Value} {xs ys : List Value} (o : W.ownsRow B e s v n xs) (g : W.grownBy W' v.ownBlock) (q : W.ownsRow B' e' s' u m ys) (hne : e' ≠ e) : W'.ownsRow B' e' s' u m ys := by
  refine ownsRow_of_block q fun k hk => ?_
  rcases q.2 with ⟨rfl, _⟩ | ⟨h, cap, cur, rfl, _, h3, _⟩
  · simp [Value.ownBlock] at hk
  · simp [Value.ownBlock] at hk
    subst hk
    exact g.block _ (blk_lt h3) (fun e' => own_not o h3 hne e'.symm)
/-- The bytes so far, and the places so far. -/
structure Of2 (w wr : World) (xs ats : List Nat) (b t : Value) : Prop where
  ob : wr.ownsRow w.heap.size 5 1 b xs.length (bv xs)
  oa : wr.ownsRow w.heap.size 3 1 t ats.length (iv ats)
  fr : Fr [] w wr
theorem Of2.quiet {w wr w' : World} {xs ats : List Nat} {b t : Value} (h : Of2 w wr xs ats b t) (f : Fr [] wr w') : Of2 w w' xs ats b t := ⟨ownsRow_fr h.ob f, ownsRow_fr h.oa f, h.fr.trans f⟩
theorem Of2.bgrow {w wr w' : World} {xs ats : List Nat} {b t v' : Value} (h : Of2 w wr xs ats b t) (ys : List Nat) (o : w'.ownsRow w.heap.size 5 1 v' (xs.length + (bv ys).length) (bv xs ++ bv ys)) (g : wr.grownBy w' b.ownBlock) : Of2 w w' (xs ++ ys) ats v' t :=
  ⟨by rw [bv_append, List.length_append, ← bv_len ys]; exact o, own_keep h.ob g h.oa (by decide), h.fr.grown g (fun k hk => .inr (h.ob.lt k hk).1)⟩
theorem Of2.agrow {w wr w' : World} {xs ats : List Nat} {b t v' : Value} (h : Of2 w wr xs ats b t) (p : Nat) (o : w'.ownsRow w.heap.size 3 1 v' (ats.length + 1) (iv ats ++ [.int .i64 (p : Int)])) (g : wr.grownBy w' t.ownBlock) : Of2 w w' xs (ats ++ [p]) b v' :=
  ⟨own_keep h.oa g h.ob (by decide), by rw [List.length_append]; unfold iv; rw [List.map_append]; exact o, h.fr.grown g (fun k hk => .inr (h.oa.lt k hk).1)⟩
end Go.Proofs.Ytobdegmlijnogaa
namespace Go.Proofs.Ytobdegmlijnogaa
open Go.ChangeShapes Go.WideShapes Go.ChangeAt Go.RowKit

theorem infoU : (Try.prog.info? 37).map (fun i => (i.zero, i.size, i.bytes)) = some (some (.int .u64 0), 1, 8) := by kernel_rfl
theorem wpList_append_u {w : World} {ops : Array Oper} {rest : List Oper} {o : Oper} {a : Act} {Q : Exit → Act → World → Prop} (hgd : o.guard = none) (s x : Operand)
    (ho : o.op = .call { callee := .builtin .append, args := #[s, x], argTypes := #[107, 107] }) (base : Nat) (hbase : base ≤ w.heap.size) (v : Value) (n : Nat) (xs : List Value) (hs : a.eval s = v) (hown : w.ownsRow base 37 1 v n xs) (G : Nat) (hx : a.eval x = .slice (some ⟨G, 0, none⟩) 1 1) {u : Value} {T : TypeId} (hG : w.heap[G]? = some (.cells #[u] T (0, 0)))
    (hu : u.oneCell' = true) (hl : n ≤ 100000000000)
    (h : ∀ v' w', w'.ownsRow base 37 1 v' (n + 1) (xs ++ [u]) → w.grownBy w' v.ownBlock → wpList Try.prog ops Q rest (a.put o.dst v') w') :
    wpList Try.prog ops Q (o :: rest) a w := by
  obtain ⟨i0, hi, hz0, hz1, hz2⟩ := info_parts infoU
  refine wpList_append_own_at w hgd s x 107 ho base 37 i0 _ 1 8 Try.underlying107 hi hz0 hz1 hz2 rfl (by decide) v n xs hs hown ⟨G, 0, none⟩ 1 1 [u] hx rfl ?_ ?_ (by unfold maxLen; omega) (by omega) hbase fun v' w' h1 h2 _ _ => h v' w' h1 h2
  · intro j u' hj
    rw [Addr.add_lit, Nat.zero_add, blk_cell hG, ← Array.getElem?_toList]
    exact hj
  · intro u' hu'
    simp at hu'
    subst hu'; exact hu
def stV (key : List Nat) (m : Nat) (k : Nat) : List Value := (List.range k).map fun j => .int .u64 ((hs (crc key) (rt (crc key)) j % m : Nat) : Int)
theorem stV_succ (key : List Nat) (m k : Nat) : stV key m (k + 1) = stV key m k ++ [.int .u64 ((hs (crc key) (rt (crc key)) k % m : Nat) : Int)] := by unfold stV; rw [List.range_succ, List.map_append]; rfl
theorem stV_at (key : List Nat) (m : Nat) {k j : Nat} (h : j < k) : (stV key m k)[j]? = some (.int .u64 ((hs (crc key) (rt (crc key)) j % m : Nat) : Int)) := by unfold stV; rw [List.getElem?_map, List.getElem?_range h]; rfl
end Go.Proofs.Ytobdegmlijnogaa
