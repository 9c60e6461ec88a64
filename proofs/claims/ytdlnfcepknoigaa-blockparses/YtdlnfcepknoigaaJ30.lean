/-
  sort.Search; restartOf.
-/
import Derived.Test.YtdlnfcepknoigaaBI
namespace Go.Proofs.Ytdlnfcepknoigaa
open Go.ChangeShapes Go.WideShapes Go.ChangeAt Go.RowKit

set_option maxRecDepth 20000 in
set_option maxHeartbeats 3200000 in
theorem search_r (w : World) (n : Nat) (hn : n ≤ 1000000000) (x1 x2 : Value) (P : Nat → Bool)
    (hF : ∀ h W, h < n → Fr [] w W → Calls Try.prog 57 #[.int .i64 (h : Int), x1, x2] W fun e w' => e = .returned (.bool (P h)) ∧ Fr [] W w') :
    Calls Try.prog 51 #[.int .i64 (n : Int), .func (.func 57) #[] #[x1, x2]] w fun e w' => ∃ k : Nat, e = .returned (.int .i64 (k : Int)) ∧ k ≤ n ∧ (k < n → P k = true) ∧ (0 < k → P (k - 1) = false) ∧ Fr [] w w' := by
  have HF := hid hF
  clear hF
  go_enter Try.func51, Try.ntmps51
  go_wp2_with fail
  go_loopw [5, 6] (fun v5 v6 wr => ∃ i j : Nat, v5 = .int .i64 (i : Int) ∧ v6 = .int .i64 (j : Int) ∧ i ≤ j ∧ j ≤ n ∧ (j < n → P j = true) ∧ (0 < i → P (i - 1) = false) ∧ Fr [] w wr) (fun v5 v6 _ => (intOf v6).toNat - (intOf v5).toNat)
  case atStart => exact ⟨0, n, rfl, rfl, Nat.zero_le _, Nat.le_refl _, fun h => by omega, fun h => by omega, Fr.refl _ _⟩
  case round =>
    obtain ⟨i, j, rfl, rfl, hij, hjn, h1, h2, hf⟩ := hrel
    have H := hid (And.intro h1 (And.intro h2 hf))
    clear h1 h2 hf
    by_cases hlt : i < j
    · obtain ⟨h, hh⟩ : ∃ h, h = (i + j) / 2 := ⟨_, rfl⟩
      have hdv : ((i : Int) + (j : Int)) / 2 = (h : Int) := by omega
      have hh1 : i ≤ h := by omega
      have hh2 : h < j := by omega
      have HC := hid (HF.out h wr (by omega) H.out.2.2)
      clear hh
      go_wp2_with fail
      refine HC.out.mono ?_
      rintro e w1 ⟨rfl, f1⟩
      have F1 := hid (H.out.2.2.trans f1)
      clear f1 HC
      rcases hp : P h with _ | _
      · have HP := hid hp
        clear hp
        go_wp2
        go_roundw
        case rel => exact ⟨h + 1, j, by go_num, rfl, by omega, hjn, H.out.1, fun _ => by rw [Nat.add_sub_cancel]; exact HP.out, F1.out⟩
        case measure => simp [intOf]; omega
      · have HP := hid hp
        clear hp
        go_wp2
        go_roundw
        case rel => exact ⟨i, h, rfl, rfl, by omega, by omega, fun _ => HP.out, H.out.2.1, F1.out⟩
        case measure => simp [intOf]; omega
    · have hij' : i = j := by omega
      subst hij'
      go_wp2
      go_ret
      exact ⟨i, rfl, hjn, H.out.1, H.out.2.1, H.out.2.2⟩
set_option maxRecDepth 20000 in
set_option maxHeartbeats 3200000 in
theorem search_f (w : World) (n : Nat) (hn : n ≤ 1000000000) (x1 x2 : Value) (P : Nat → Bool)
    (hF : ∀ h W, h < n → Fr [] w W → Calls Try.prog 52 #[.int .i64 (h : Int), x1, x2] W fun e w' => e = .returned (.bool (P h)) ∧ Fr [] W w') :
    Calls Try.prog 51 #[.int .i64 (n : Int), .func (.func 52) #[] #[x1, x2]] w fun e w' => ∃ k : Nat, e = .returned (.int .i64 (k : Int)) ∧ k ≤ n ∧ (k < n → P k = true) ∧ (0 < k → P (k - 1) = false) ∧ Fr [] w w' := by
  have HF := hid hF
  clear hF
  go_enter Try.func51, Try.ntmps51
  go_wp2_with fail
  go_loopw [5, 6] (fun v5 v6 wr => ∃ i j : Nat, v5 = .int .i64 (i : Int) ∧ v6 = .int .i64 (j : Int) ∧ i ≤ j ∧ j ≤ n ∧ (j < n → P j = true) ∧ (0 < i → P (i - 1) = false) ∧ Fr [] w wr) (fun v5 v6 _ => (intOf v6).toNat - (intOf v5).toNat)
  case atStart => exact ⟨0, n, rfl, rfl, Nat.zero_le _, Nat.le_refl _, fun h => by omega, fun h => by omega, Fr.refl _ _⟩
  case round =>
    obtain ⟨i, j, rfl, rfl, hij, hjn, h1, h2, hf⟩ := hrel
    have H := hid (And.intro h1 (And.intro h2 hf))
    clear h1 h2 hf
    by_cases hlt : i < j
    · obtain ⟨h, hh⟩ : ∃ h, h = (i + j) / 2 := ⟨_, rfl⟩
      have hdv : ((i : Int) + (j : Int)) / 2 = (h : Int) := by omega
      have hh1 : i ≤ h := by omega
      have hh2 : h < j := by omega
      have HC := hid (HF.out h wr (by omega) H.out.2.2)
      clear hh
      go_wp2_with fail
      refine HC.out.mono ?_
      rintro e w1 ⟨rfl, f1⟩
      have F1 := hid (H.out.2.2.trans f1)
      clear f1 HC
      rcases hp : P h with _ | _
      · have HP := hid hp
        clear hp
        go_wp2
        go_roundw
        case rel => exact ⟨h + 1, j, by go_num, rfl, by omega, hjn, H.out.1, fun _ => by rw [Nat.add_sub_cancel]; exact HP.out, F1.out⟩
        case measure => simp [intOf]; omega
      · have HP := hid hp
        clear hp
        go_wp2
        go_roundw
        case rel => exact ⟨i, h, rfl, rfl, by omega, by omega, fun _ => HP.out, H.out.2.1, F1.out⟩
        case measure => simp [intOf]; omega
    · have hij' : i = j := by omega
      subst hij'
      go_wp2
      go_ret
      exact ⟨i, rfl, hjn, H.out.1, H.out.2.1, H.out.2.2⟩
end Go.Proofs.Ytdlnfcepknoigaa
namespace Go.Proofs.Ytdlnfcepknoigaa
open Go.ChangeShapes Go.WideShapes Go.ChangeAt Go.RowKit

set_option maxRecDepth 20000 in
set_option maxHeartbeats 3200000 in
theorem restartOf1_c (W : World) {L S sec h : Nat} {v : Value} {ls : List Ln} (hL : W.heap[L]? = some (.cells #[v] 54 (0, 0))) (hS : W.heap[S]? = some (.cells #[.int .u32 (sec : Int)] 49 (0, 0))) (hr : RdN W v ls) (hh : h < ls.length) (hl : ls.length ≤ 1000000000) (hs : sec < 4294967296) :
    Calls Try.prog 57 #[.int .i64 (h : Int), .pointer (some ⟨L, 0, none⟩), .pointer (some ⟨S, 0, none⟩)] W fun e w' => e = .returned (.bool (decide (sec ≤ (lnA ls h).pos))) ∧ Fr [] W w' := by
  obtain ⟨a, c, rfl, k1⟩ := hr
  obtain ⟨b, off, rfl, m1⟩ := k1 (by omega)
  obtain ⟨ka, kc, va, vc, P⟩ := m1 h _ (lnA_at hh)
  have z1 : W.cell? ⟨L, 0, none⟩ = some (.slice (some ⟨b, off, none⟩) ls.length c) := by rw [blk_cell hL]; rfl
  have z2 : W.cell? ⟨S, 0, none⟩ = some (.int .u32 (sec : Int)) := by rw [blk_cell hS]; rfl
  have z3 := P.c0
  have hd : decide ((sec : Int) ≤ ((lnA ls h).pos : Int)) = decide (sec ≤ (lnA ls h).pos) := by congr 1; apply propext; omega
  clear m1 k1 P hL hS
  generalize (lnA ls h).pos = p at *
  generalize ls.length = n at *
  go_enter Try.func57, Try.ntmps57
  go_upto_region 1 with fail
  go_quiet (fail)
  go_wp2
  go_ret
  refine ⟨?_, (Fr.refl _ _).drewN _⟩
  rw [← hd]; rfl

set_option maxRecDepth 20000 in
set_option maxHeartbeats 3200000 in
theorem restartOf_c (w : World) {v : Value} {q o c : Nat} {ls : List Ln} {pl : List Nat} (hr : RdN w v ls) (hl : ls.length ≤ 1000000000) (hp : Rd w (.slice (some ⟨q, o, none⟩) pl.length c) (bv pl)) (hb : By pl) (hpl : pl.length ≤ 1000000000) (hc : pl.length < c) :
    Calls Try.prog 44 #[v, .slice (some ⟨q, o, none⟩) pl.length c] w fun e w' => ∃ r : Nat, e = .returned (.int .i64 (r : Int)) ∧ RsO ls pl r ∧ r ≤ 1000000000 ∧ Fr [] w w' := by
  have hrv := hr
  obtain ⟨la, lc, rfl, _⟩ := hrv
  have HR := hid hr
  by_cases h8 : pl.length < 8
  · have H8 := hid h8
    generalize hn : pl.length = n at *
    have HN := hid hn
    clear hr hp hb hn
    go_enter Try.func44, Try.ntmps44
    go_wp2
    go_ret
    exact ⟨64, rfl, .inl ⟨by rw [HN.out]; exact H8.out, rfl⟩, by omega, (Fr.refl _ _).alloc _⟩
  · have RB := hp.back (q := 4) (by omega)
    have BD := hb.drop 4
    obtain ⟨sec, hsec⟩ : ∃ s, s = unf ((pl.drop 4).take 4) := ⟨_, rfl⟩
    have hs32 : sec < 4294967296 := by
      have := unf_lt _ (BD.take 4)
      rw [List.length_take, List.length_drop, show min 4 (pl.length - 4) = 4 from by omega] at this
      rw [hsec]; exact this
    have HS := hid hsec
    have HU : Hid (∀ W, Fr [] w W → Calls Try.prog 55 #[.slice (some ⟨q, o + 4, none⟩) (pl.length - 4) (c - 4)] W fun e w' => e = .returned (.tuple #[.int .u32 (sec : Int), .int .i64 0]) ∧ w' = W) := hid fun W f => by
      rw [hsec]
      exact unfixed4_c (RB.fr f) BD (by rw [List.length_drop]; omega) (by rw [List.length_drop]; omega)
    have hc4 : ¬ c = 4 := by omega
    clear hp hb RB BD hsec hr
    obtain ⟨W1, hW1⟩ : ∃ W, W = w.alloc (.cells #[.slice la ls.length lc] 54) := ⟨_, rfl⟩
    have F1 : Hid (Fr [] w W1) := by refine hid ?_; rw [hW1]; exact (Fr.refl _ _).alloc _
    have L1 : Hid (W1.heap[w.heap.size]? = some (.cells #[.slice la ls.length lc] 54 (0, 0))) := by refine hid ?_; rw [hW1]; exact blk_new _ _
    have s1 : W1.heap.size = w.heap.size + 1 := by rw [hW1]; simp
    obtain ⟨W2, hW2⟩ : ∃ W, W = W1.alloc (.cells #[.int .u32 (sec : Int)] 49) := ⟨_, rfl⟩
    have F2 : Hid (Fr [] W1 W2) := by refine hid ?_; rw [hW2]; exact (Fr.refl _ _).alloc _
    have S2 : Hid (W2.heap[w.heap.size + 1]? = some (.cells #[.int .u32 (sec : Int)] 49 (0, 0))) := by refine hid ?_; rw [hW2]; exact new_at _ _ s1.symm
    have SC := hid (search_r W2 ls.length hl (.pointer (some ⟨w.heap.size, 0, none⟩)) (.pointer (some ⟨w.heap.size + 1, 0, none⟩)) (fun h => decide (sec ≤ (lnA ls h).pos)) (fun h W hh f => restartOf1_c W ((F2.out.trans f).at L1.out (by simp)) (f.at S2.out (by simp)) (HR.out.fr (F1.out.trans (F2.out.trans f))) hh hl hs32))
    have HL8 := hid h8
    have z1 : W2.cell? ⟨w.heap.size, 0, none⟩ = some (.slice la ls.length lc) := by rw [blk_cell (F2.out.at L1.out (by simp))]; rfl
    generalize hn : pl.length = n at *
    generalize hnl : ls.length = nl at *
    have HN := hid (And.intro hn hnl)
    clear hn hnl
    go_enter Try.func44, Try.ntmps44
    go_wp2_with fail
    rw [← hW1]
    refine (HU.out W1 F1.out).mono ?_
    rintro e w3 ⟨rfl, rfl⟩
    go_upto_region 4 with fail
    rw [← hW1, ← hW2]
    clear hW1 hW2
    go_wp2_with fail
    refine SC.out.mono ?_
    rintro e w3 ⟨k, rfl, hk, h1, h2, f3⟩
    have H3 := hid (And.intro h1 (And.intro h2 f3))
    clear h1 h2 f3 SC
    go_wp2
    go_ret
    refine ⟨k, rfl, .inr ⟨by rw [HN.out.1]; omega, by rw [HN.out.2]; exact hk, fun hlt => ?_, fun hlt => ?_⟩, by omega, F1.out.trans (F2.out.trans H3.out.2.2)⟩
    · rw [← HS.out]
      exact of_decide_eq_true (H3.out.1 (by rw [← HN.out.2]; exact hlt))
    · rw [← HS.out]
      have := of_decide_eq_false (H3.out.2.1 hlt)
      omega
end Go.Proofs.Ytdlnfcepknoigaa
