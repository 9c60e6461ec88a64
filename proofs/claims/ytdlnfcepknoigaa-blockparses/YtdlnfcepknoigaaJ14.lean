/-
  Package block: follows, sharing.
-/
import Derived.Test.YtdlnfcepknoigaaJ13
namespace Go.Proofs.Ytdlnfcepknoigaa
open Go.ChangeShapes Go.WideShapes Go.ChangeAt Go.RowKit

set_option maxRecDepth 20000 in
set_option maxHeartbeats 1600000 in
theorem follows_c (w : World) {v1 v2 : Value} {a k : List Nat} (h1 : Rd w v1 (bv a)) (ha : By a) (hla : a.length ≤ 140737488355328) (h2 : Rd w v2 (bv k)) (hk : By k) (hlk : k.length ≤ 140737488355328) :
    Calls Try.prog 35 #[v1, v2] w fun e w' => e = .returned (.bool (flw a k)) ∧ Fr [] w w' := by
  obtain ⟨a1, c1, hv1⟩ := h1.form
  obtain ⟨a2, c2, hv2⟩ := h2.form
  rw [bv_len] at hv1 hv2
  subst hv1
  subst hv2
  have H1 := hid h1
  have H2 := hid h2
  have HA := hid ha
  have HK := hid hk
  clear h1 h2 ha hk
  by_cases h0 : a = []
  · subst h0
    simp only [List.length_nil]
    cases hk : isK k with
    | false =>
      have HS := hid (Split_no w H2.out HK.out hlk hk)
      have hf : flw [] k = false := by unfold flw; rw [if_pos rfl]; exact hk
      rw [hf]
      clear hk hf
      go_enter Try.func35, Try.ntmps35
      go_wp2_with fail
      refine HS.out.mono ?_
      rintro e w1 ⟨rfl, f1⟩
      go_wp2
      go_ret
      exact ⟨rfl, f1⟩
    | true =>
      have HS := hid (Split_yes w H2.out HK.out hk)
      have hf : flw [] k = true := by unfold flw; rw [if_pos rfl]; exact hk
      rw [hf]
      clear hk hf
      go_enter Try.func35, Try.ntmps35
      go_wp2_with fail
      refine HS.out.mono ?_
      rintro e w1 ⟨v', rfl, _, f1⟩
      go_wp2
      go_ret
      exact ⟨rfl, f1⟩
  · have hpos : 0 < a.length := List.length_pos_iff.2 h0
    have hf : flw a k = (isK a && (isK k && decide (ordK a k < 0))) := by unfold flw; rw [if_neg h0]
    rw [hf]
    cases hka : isK a with
    | false =>
      have HS := hid (compare_no1 w H1.out HA.out hla hka (v2 := .slice a2 k.length c2) rfl)
      clear hka hf
      generalize a.length = n1 at *
      generalize k.length = n2 at *
      go_enter Try.func35, Try.ntmps35
      go_wp2_with fail
      refine HS.out.mono ?_
      rintro e w1 ⟨rfl, f1⟩
      go_wp2
      go_ret
      exact ⟨rfl, f1⟩
    | true => cases hkk : isK k with
      | false =>
        have HS := hid (compare_no2 w H1.out HA.out hka H2.out HK.out hlk hkk)
        clear hka hf hkk
        generalize a.length = n1 at *
        generalize k.length = n2 at *
        go_enter Try.func35, Try.ntmps35
        go_wp2_with fail
        refine HS.out.mono ?_
        rintro e w1 ⟨rfl, f1⟩
        go_wp2
        go_ret
        exact ⟨rfl, f1⟩
      | true =>
        have HS := hid (compare_yes w H1.out HA.out hka H2.out HK.out hkk)
        clear hka hf hkk
        simp only [Bool.true_and]
        generalize a.length = n1 at *
        generalize k.length = n2 at *
        generalize ordK a k = o at *
        go_enter Try.func35, Try.ntmps35
        go_wp2_with fail
        refine HS.out.mono ?_
        rintro e w1 ⟨rfl, f1⟩
        go_wp2
        go_ret
        exact ⟨rfl, f1⟩

set_option maxRecDepth 20000 in
set_option maxHeartbeats 1600000 in
theorem sharing_q (w : World) {v1 v2 : Value} {a k : List Nat} (i r : Nat) (hi : i ≤ 140737488355328) (hr : 1 ≤ r) (hr2 : r ≤ 64) (h1 : Rd w v1 (bv a)) (hla : a.length ≤ 140737488355328) (h2 : Rd w v2 (bv k)) (hlk : k.length ≤ 140737488355328) :
    Calls Try.prog 21 #[.int .i64 (i : Int), .int .i64 (r : Int), v1, v2] w fun e w' => e = .returned (.int .i64 ((if i % r = 0 then 0 else shr a k : Nat) : Int)) ∧ ∃ m, w' = w.drewN m := by
  have S1 := h1.split
  have S2 := h2.split
  obtain ⟨a1, c1, hv1⟩ := h1.form
  obtain ⟨a2, c2, hv2⟩ := h2.form
  rw [bv_len] at hv1 hv2
  subst hv1
  subst hv2
  have H1 := hid S1
  have H2 := hid S2
  obtain ⟨n1, hn1⟩ : ∃ n, n = a.length := ⟨_, rfl⟩
  obtain ⟨n2, hn2⟩ : ∃ n, n = k.length := ⟨_, rfl⟩
  have HN1 := hid hn1
  have HN2 := hid hn2
  rw [← hn1] at hla ⊢
  rw [← hn2] at hlk ⊢
  clear h1 h2 S1 S2 hn1 hn2
  have hmod : ((i : Int) % (r : Int)) = ((i % r : Nat) : Int) := by simp
  obtain ⟨md, hmd⟩ : ∃ m, m = i % r := ⟨_, rfl⟩
  rw [← hmd] at hmod ⊢
  clear hmd
  by_cases hz : md = 0
  · rw [if_pos hz]
    subst hz
    go_enter Try.func21, Try.ntmps21
    go_wp2
    all_goals first
      | (go_ret; exact ⟨rfl, 0, rfl⟩)
      | (exfalso; omega)
  · rw [if_neg hz]
    have hmin : ∃ m, m = min n1 n2 ∧ m ≤ n1 ∧ m ≤ n2 ∧ ((m = n1 ∧ ¬ n2 < n1) ∨ (m = n2 ∧ n2 < n1)) := ⟨_, rfl, by omega, by omega, by omega⟩
    obtain ⟨m, hm, hm1, hm2, hc⟩ := hmin
    have HM := hid hm
    clear hm
    rcases hc with ⟨rfl, hc⟩ | ⟨rfl, hc⟩
    all_goals
      go_enter Try.func21, Try.ntmps21
      go_wp2_with fail
      rename_i K hK
      go_loopw [21] (fun v21 wr => ∃ n : Nat, n ≤ m ∧ v21 = .int .i64 (n : Int) ∧ a.take n = k.take n ∧ ∃ m, wr = w.drewN m) (fun v21 _ => m - (intOf v21).toNat)
      case atStart => exact ⟨0, Nat.zero_le _, rfl, rfl, 0, rfl⟩
      case round =>
        obtain ⟨n, hn, rfl, ht, mm, hmm⟩ := hrel
        have HT := hid ht
        have hf : Fr [] w wr := by rw [hmm]; exact (Fr.refl _ _).drewN mm
        have HF := hid hf
        have HW := hid hmm
        clear ht hf hmm
        by_cases hlt : n < m
        · have l1 : n < a.length := by have := HN1.out; omega
          have l2 : n < k.length := by have := HN2.out; omega
          obtain ⟨x, hx⟩ : ∃ x, a[n]? = some x := ⟨_, List.getElem?_eq_getElem l1⟩
          obtain ⟨y, hy⟩ : ∃ y, k[n]? = some y := ⟨_, List.getElem?_eq_getElem l2⟩
          rcases H1.out with ⟨hb, _⟩ | ⟨b1, o1, d1, e1, _, _, g1⟩
          · rw [hb] at l1; simp at l1
          rcases H2.out with ⟨hb, _⟩ | ⟨b2, o2, d2, e2, _, _, g2⟩
          · rw [hb] at l2; simp at l2
          simp only [Value.slice.injEq] at e1 e2
          obtain ⟨rfl, _, rfl⟩ := e1
          obtain ⟨rfl, _, rfl⟩ := e2
          have z1 := cell_fr HF.out (g1 n x hx)
          have z2 := cell_fr HF.out (g2 n y hy)
          clear g1 g2
          by_cases hxy : x = y
          · subst hxy
            have B : Hid (a.take (n + 1) = k.take (n + 1)) := by
              refine hid ?_
              rw [List.take_add_one, List.take_add_one, HT.out, hx, hy]
            clear hx hy l1 l2
            go_upto_region 7 with fail
            go_quiet (fail)
            go_wp2
            go_roundw
            case rel => exact ⟨n + 1, by omega, by go_num, B.out, mm + nq, by rw [HW.out, World.drewN_drewN]⟩
            case measure => simp [intOf]; omega
          · have B : shr a k = n := shr_eq n a k HT.out (by omega) (by omega) (.inr ⟨x, y, hx, hy, hxy⟩)
            have HB := hid B
            clear hx hy l1 l2 B
            go_upto_region 7 with fail
            go_quiet (fail)
            go_wp2
            all_goals first
              | (go_ret; exact ⟨by rw [HB.out]; rfl, mm + nq, by rw [HW.out, World.drewN_drewN]⟩)
              | (exfalso; omega)
        · have hk' : n = m := by omega
          subst hk'
          have B : shr a k = n := shr_eq n a k HT.out (by have := HN1.out; omega) (by have := HN2.out; omega) (.inl (by rw [← HN1.out, ← HN2.out]; exact HM.out))
          have HB := hid B
          clear B
          go_wp2
          go_ret
          exact ⟨by rw [HB.out]; rfl, mm, HW.out⟩
theorem sharing_c (w : World) {v1 v2 : Value} {a k : List Nat} (i r : Nat) (hi : i ≤ 140737488355328) (hr : 1 ≤ r) (hr2 : r ≤ 64) (h1 : Rd w v1 (bv a)) (hla : a.length ≤ 140737488355328) (h2 : Rd w v2 (bv k)) (hlk : k.length ≤ 140737488355328) :
    Calls Try.prog 21 #[.int .i64 (i : Int), .int .i64 (r : Int), v1, v2] w fun e w' => e = .returned (.int .i64 ((if i % r = 0 then 0 else shr a k : Nat) : Int)) ∧ Fr [] w w' := by
  refine (sharing_q w i r hi hr hr2 h1 hla h2 hlk).mono ?_
  rintro e w' ⟨rfl, m, rfl⟩
  exact ⟨rfl, (Fr.refl _ _).drewN m⟩
end Go.Proofs.Ytdlnfcepknoigaa
namespace Go.Proofs.Ytdlnfcepknoigaa
open Go.ChangeShapes Go.WideShapes Go.ChangeAt Go.RowKit

theorem not_rises {ps : Ps} {i : Nat} (h : i < ps.length) (hf : flw (ahd ps i) (kA ps i) = false) : ¬ Rises ps := fun hr => by rw [hr i h] at hf; cases hf

set_option maxRecDepth 20000 in
set_option maxHeartbeats 1600000 in
theorem rising_c (w : World) {v : Value} {ps : Ps} (h : RdK w v ps) (hl : ps.length ≤ 1000000) :
    Calls Try.prog 18 #[v] w fun e w' => (e = .returned (.bool true) ∧ Rises ps ∨ e = .returned (.bool false) ∧ ¬ Rises ps) ∧ Fr [] w w' := by
  obtain ⟨a, c, rfl, hc, k1⟩ := h
  have H1 := hid k1
  clear k1
  obtain ⟨n, hn⟩ : ∃ n, n = ps.length := ⟨_, rfl⟩
  have HN := hid hn
  rw [← hn] at hl hc ⊢
  clear hn
  go_enter Try.func18, Try.ntmps18
  go_wp2_with fail
  go_loopw [3, 8] (fun v3 v8 wr => ∃ i : Nat, i ≤ n ∧ v8 = .int .i64 (i : Int) ∧ (Rd wr v3 (bv (ahd ps i)) ∧ By (ahd ps i) ∧ (ahd ps i).length ≤ 140737488355328 ∧ (∀ j, j < i → flw (ahd ps j) (kA ps j) = true)) ∧ Fr [] w wr) (fun _ v8 _ => n - (intOf v8).toNat)
  case atStart => exact ⟨0, Nat.zero_le _, rfl, ⟨.inl ⟨rfl, rfl⟩, fun n h => absurd h (by simp [ahd]), by simp [ahd], fun j h => by omega⟩, Fr.refl _ _⟩
  case round =>
    obtain ⟨i, hi, rfl, hr, hf⟩ := hrel
    have HR := hid hr
    have HF := hid hf
    clear hr hf
    by_cases hlt : i < n
    · have hil : i < ps.length := by rw [← HN.out]; exact hlt
      have hp := ps_at hil
      obtain ⟨b, off, rfl, m1⟩ := H1.out (by omega)
      obtain ⟨ka, kc, va, vc, P⟩ := m1 i _ hp
      have P2 := P.fr HF.out
      have z1 := P2.ck
      have z2 := P2.cv
      have HP := hid P2
      obtain ⟨lk, hlk⟩ : ∃ l, l = (kA ps i).length := ⟨_, rfl⟩
      obtain ⟨lv, hlv⟩ : ∃ l, l = (vA ps i).length := ⟨_, rfl⟩
      have HLK := hid hlk
      dsimp only at z1 z2
      rw [← hlk] at z1
      rw [← hlv] at z2
      obtain ⟨wx, hwx⟩ : ∃ wx, wx = wr.alloc (.cells #[.slice ka lk kc, .slice va lv vc] 40) := ⟨_, rfl⟩
      have fx : Fr [] wr wx := by rw [hwx]; exact (Fr.refl _ _).alloc _
      have FX := hid fx
      have HFW := hid (follows_c wx (HR.out.1.fr fx) HR.out.2.1 HR.out.2.2.1 (HP.out.rk.fr fx) HP.out.bk HP.out.lk)
      clear hlk hlv P P2 m1 hp fx hil
      go_wp2_with fail
      rw [← hwx]
      rw [← HLK.out] at HFW
      have bx : wx.heap[wr.heap.size]? = some (.cells #[.slice ka lk kc, .slice va lv vc] 40 (0, 0)) := by rw [hwx]; exact blk_new _ _
      clear hwx
      refine HFW.out.mono ?_
      rintro e w1 ⟨rfl, f1⟩
      have b1 := f1.at bx (by simp)
      have F1 := hid (FX.out.trans f1)
      have R1 := hid (HP.out.rk.fr (FX.out.trans f1))
      rw [← HLK.out] at R1
      clear HFW bx f1
      have hcell := blk_cell b1 0
      rcases hq : flw (ahd ps i) (kA ps i) with _ | _
      · have HQ := hid hq
        clear hq
        go_wp2
        go_ret
        exact ⟨.inr ⟨rfl, not_rises (by have := HN.out; omega) HQ.out⟩, HF.out.trans F1.out⟩
      · have HQ := hid hq
        clear hq
        go_wp2
        go_roundw
        case rel =>
          refine ⟨i + 1, by omega, by go_num, ⟨?_, ?_, ?_, ?_⟩, HF.out.trans F1.out⟩
          · rw [ahd_succ]; exact R1.out
          · rw [ahd_succ]; exact HP.out.bk
          · rw [ahd_succ]; exact HP.out.lk
          · intro j hj
            by_cases hji : j = i
            · subst hji; exact HQ.out
            · exact HR.out.2.2.2 j (by omega)
        case measure => simp [intOf]; omega
    · have hk' : i = n := by omega
      subst hk'
      go_wp2
      go_ret
      exact ⟨.inl ⟨rfl, fun j hj => HR.out.2.2.2 j (by rw [HN.out]; exact hj)⟩, HF.out⟩
end Go.Proofs.Ytdlnfcepknoigaa
