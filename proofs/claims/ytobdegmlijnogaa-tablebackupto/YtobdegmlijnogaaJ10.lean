/-
  What Split of package codec answers, and the reference's Key and Split.
-/
import Derived.Test.YtobdegmlijnogaaJ03
import Derived.Test.YtobdegmlijnogaaJ09
import Derived.Deep.RegionLaw
namespace Go.Proofs.Ytobdegmlijnogaa
open Go.ChangeShapes Go.WideShapes Go.ChangeAt Go.RowKit

theorem results_tmp4 {fn : Func} {p q r s : Tmp} (h : fn.results = #[.tmp p, .tmp q, .tmp r, .tmp s]) (tmps : Array Value) (P : Program) (w : World) :
    (results fn tmps).run P w = .ok (.tuple #[tmps.getD p undef, tmps.getD q undef, tmps.getD r undef, tmps.getD s undef]) w := by
  simp only [results, h]
  simp

set_option maxRecDepth 20000 in
set_option maxHeartbeats 400000 in
theorem Split_no (w : World) {v : Value} {b : List Nat} (hr : Rd w v (bv b)) (hb : By b) (hl : b.length ≤ 140737488355328) (h : isK b = false) :
    Calls Try.prog 36 #[v] w fun e w' => e = .returned (.tuple #[.slice none 0 0, .int .u64 0, .int .i64 0, .int .i64 23]) ∧ Fr [] w w' := by
  have HS := hid (split_no w hr hb hl h)
  obtain ⟨a, c, hv⟩ := hr.form
  subst hv
  clear hr hb h
  go_enter Try.func36, Try.ntmps36
  go_wp2_with fail
  refine HS.out.mono ?_
  rintro e w1 ⟨rfl, f1⟩
  go_wp2
  exact bodyPost_ret (results_tmp4 rfl _ _ _) rfl ⟨rfl, f1.alloc _⟩

set_option maxRecDepth 20000 in
set_option maxHeartbeats 4000000 in
theorem Split_yes (w : World) {v : Value} {b : List Nat} (hr : Rd w v (bv b)) (hb : By b) (h : isK b = true) :
    Calls Try.prog 36 #[v] w fun e w' => ∃ v', e = .returned (.tuple #[v', .int .u64 ((tailN b / 256 : Nat) : Int), .int .i64 ((tailN b % 256 : Nat) : Int), .int .i64 0]) ∧ w'.ownsRow w.heap.size 5 1 v' (userL b).length (bv (userL b)) ∧ Fr [] w w' := by
  have hk := isK_len h
  obtain ⟨q, off, c, rfl, h1⟩ := hr.place (by omega)
  have hs0 := split_yes w hr hb h1 h
  have hr0 := hr.front (q := b.length - 8) (by omega)
  obtain ⟨s, hs⟩ : ∃ s, s = tailN b / 256 := ⟨_, rfl⟩
  obtain ⟨g, hg⟩ : ∃ g, g = tailN b % 256 := ⟨_, rfl⟩
  obtain ⟨u, hu⟩ : ∃ u, u = b.take (b.length - 8) := ⟨_, rfl⟩
  have hul : b.length - 8 = u.length := by rw [hu, List.length_take]; omega
  have hlen : u.length ≤ 140737488355328 := by omega
  rw [← hs, ← hg, hul] at hs0
  rw [← hu, hul] at hr0
  rw [← hs, ← hg, show userL b = u from hu.symm]
  have HS := hid hs0
  have HR := hid hr0
  clear hr hb h hs hg hs0 hr0 hu hul
  go_enter Try.func36, Try.ntmps36
  go_wp2_with fail
  refine HS.out.mono ?_
  rintro e w1 ⟨rfl, f1⟩
  have F1 := hid f1
  clear f1
  have A1 : Hid (Fr [] w (w1.alloc (.cells #[.slice (some ⟨q, off, none⟩) u.length c, .int .u64 (s : Int), .int .i64 (g : Int)] 94)).drew) := (F1.out.alloc _).drew
  have A2 := hid (HR.out.fr A1.out)
  have A3 : Hid ((w1.alloc (.cells #[.slice (some ⟨q, off, none⟩) u.length c, .int .u64 (s : Int), .int .i64 (g : Int)] 94)).drew.heap[w1.heap.size]? = some (.cells #[.slice (some ⟨q, off, none⟩) u.length c, .int .u64 (s : Int), .int .i64 (g : Int)] 94 (0, 0))) := by
    unfold Hid; rw [blk_drew]; exact blk_new w1 _
  have HCL := hid (clone_x A2.out hlen)
  have O2 := hid (ownsRow_base (clone_own (w1.alloc (.cells #[.slice (some ⟨q, off, none⟩) u.length c, .int .u64 (s : Int), .int .i64 (g : Int)] 94)).drew u hlen) A1.out.size)
  have f2 := clone_fr (w1.alloc (.cells #[.slice (some ⟨q, off, none⟩) u.length c, .int .u64 (s : Int), .int .i64 (g : Int)] 94)).drew u
  generalize cloneW (w1.alloc (.cells #[.slice (some ⟨q, off, none⟩) u.length c, .int .u64 (s : Int), .int .i64 (g : Int)] 94)).drew u = W2 at HCL O2 f2
  generalize cloneV (w1.alloc (.cells #[.slice (some ⟨q, off, none⟩) u.length c, .int .u64 (s : Int), .int .i64 (g : Int)] 94)).drew u = v2 at HCL O2
  have kb := f2.at A3.out (by simp)
  have k1 : W2.cell? ⟨w1.heap.size, 1, none⟩ = some (.int .u64 (s : Int)) := by rw [blk_cell kb]; rfl
  have k2 : W2.cell? ⟨w1.heap.size, 2, none⟩ = some (.int .i64 (g : Int)) := by rw [blk_cell kb]; rfl
  have F2 := hid (A1.out.trans f2)
  obtain ⟨a2, c2, hv2, _⟩ := ownsRow_slice O2.out
  subst hv2
  clear kb f2
  go_wp2_with fail
  go_region_with (
    go_at_call 31
    go_must (
    refine HCL.out.mono ?_
    rintro e w2 ⟨rfl, rfl⟩))
  all_goals go_wp2
  all_goals exact bodyPost_ret (results_tmp4 rfl _ _ _) rfl ⟨_, rfl, O2.out, F2.out⟩
end Go.Proofs.Ytobdegmlijnogaa
namespace Go.Proofs.Ytobdegmlijnogaa
open Go.ChangeShapes Go.WideShapes Go.ChangeAt Go.RowKit

set_option maxRecDepth 20000 in
set_option maxHeartbeats 1600000 in
theorem follows_c (w : World) {v1 v2 : Value} {a k : List Nat} (h1 : Rd w v1 (bv a)) (ha : By a) (hla : a.length ≤ 140737488355328) (h2 : Rd w v2 (bv k)) (hk : By k) (hlk : k.length ≤ 140737488355328) :
    Calls Try.prog 75 #[v1, v2] w fun e w' => e = .returned (.bool (flw a k)) ∧ Fr [] w w' := by
  obtain ⟨a1, c1, hv1⟩ := h1.form
  obtain ⟨a2, c2, hv2⟩ := h2.form
  rw [bv_len] at hv1 hv2
  subst hv1
  subst hv2
  have H1 := hid h1
  have H2 := hid h2
  have HA := hid ha
  have HK := hid hk
  clear h1 h2 ha hk
  by_cases h0 : a = []
  · subst h0
    simp only [List.length_nil]
    cases hk : isK k with
    | false =>
      have HS := hid (Split_no w H2.out HK.out hlk hk)
      have hf : flw [] k = false := by unfold flw; rw [if_pos rfl]; exact hk
      rw [hf]
      clear hk hf
      go_enter Try.func75, Try.ntmps75
      go_wp2_with fail
      refine HS.out.mono ?_
      rintro e w1 ⟨rfl, f1⟩
      go_wp2
      go_ret
      exact ⟨rfl, f1⟩
    | true =>
      have HS := hid (Split_yes w H2.out HK.out hk)
      have hf : flw [] k = true := by unfold flw; rw [if_pos rfl]; exact hk
      rw [hf]
      clear hk hf
      go_enter Try.func75, Try.ntmps75
      go_wp2_with fail
      refine HS.out.mono ?_
      rintro e w1 ⟨v', rfl, _, f1⟩
      go_wp2
      go_ret
      exact ⟨rfl, f1⟩
  · have hpos : 0 < a.length := List.length_pos_iff.2 h0
    have hf : flw a k = (isK a && (isK k && decide (ordK a k < 0))) := by unfold flw; rw [if_neg h0]
    rw [hf]
    cases hka : isK a with
    | false =>
      have HS := hid (compare_no1 w H1.out HA.out hla hka (v2 := .slice a2 k.length c2) rfl)
      clear hka hf
      generalize a.length = n1 at *
      generalize k.length = n2 at *
      go_enter Try.func75, Try.ntmps75
      go_wp2_with fail
      refine HS.out.mono ?_
      rintro e w1 ⟨rfl, f1⟩
      go_wp2
      go_ret
      exact ⟨rfl, f1⟩
    | true => cases hkk : isK k with
      | false =>
        have HS := hid (compare_no2 w H1.out HA.out hka H2.out HK.out hlk hkk)
        clear hka hf hkk
        generalize a.length = n1 at *
        generalize k.length = n2 at *
        go_enter Try.func75, Try.ntmps75
        go_wp2_with fail
        refine HS.out.mono ?_
        rintro e w1 ⟨rfl, f1⟩
        go_wp2
        go_ret
        exact ⟨rfl, f1⟩
      | true =>
        have HS := hid (compare_yes w H1.out HA.out hka H2.out HK.out hkk)
        clear hka hf hkk
        simp only [Bool.true_and]
        generalize a.length = n1 at *
        generalize k.length = n2 at *
        generalize ordK a k = o at *
        go_enter Try.func75, Try.ntmps75
        go_wp2_with fail
        refine HS.out.mono ?_
        rintro e w1 ⟨rfl, f1⟩
        go_wp2
        go_ret
        exact ⟨rfl, f1⟩

set_option maxRecDepth 20000 in
set_option maxHeartbeats 1600000 in
theorem sharing_q (w : World) {v1 v2 : Value} {a k : List Nat} (i r : Nat) (hi : i ≤ 140737488355328) (hr : 1 ≤ r) (hr2 : r ≤ 64) (h1 : Rd w v1 (bv a)) (hla : a.length ≤ 140737488355328) (h2 : Rd w v2 (bv k)) (hlk : k.length ≤ 140737488355328) :
    Calls Try.prog 51 #[.int .i64 (i : Int), .int .i64 (r : Int), v1, v2] w fun e w' => e = .returned (.int .i64 ((if i % r = 0 then 0 else shr a k : Nat) : Int)) ∧ ∃ m, w' = w.drewN m := by
  have S1 := h1.split
  have S2 := h2.split
  obtain ⟨a1, c1, hv1⟩ := h1.form
  obtain ⟨a2, c2, hv2⟩ := h2.form
  rw [bv_len] at hv1 hv2
  subst hv1
  subst hv2
  have H1 := hid S1
  have H2 := hid S2
  obtain ⟨n1, hn1⟩ : ∃ n, n = a.length := ⟨_, rfl⟩
  obtain ⟨n2, hn2⟩ : ∃ n, n = k.length := ⟨_, rfl⟩
  have HN1 := hid hn1
  have HN2 := hid hn2
  rw [← hn1] at hla ⊢
  rw [← hn2] at hlk ⊢
  clear h1 h2 S1 S2 hn1 hn2
  have hmod : ((i : Int) % (r : Int)) = ((i % r : Nat) : Int) := by simp
  obtain ⟨md, hmd⟩ : ∃ m, m = i % r := ⟨_, rfl⟩
  rw [← hmd] at hmod ⊢
  clear hmd
  by_cases hz : md = 0
  · rw [if_pos hz]
    subst hz
    go_enter Try.func51, Try.ntmps51
    go_wp2
    all_goals first
      | (go_ret; exact ⟨rfl, 0, rfl⟩)
      | (exfalso; omega)
  · rw [if_neg hz]
    have hmin : ∃ m, m = min n1 n2 ∧ m ≤ n1 ∧ m ≤ n2 ∧ ((m = n1 ∧ ¬ n2 < n1) ∨ (m = n2 ∧ n2 < n1)) := ⟨_, rfl, by omega, by omega, by omega⟩
    obtain ⟨m, hm, hm1, hm2, hc⟩ := hmin
    have HM := hid hm
    clear hm
    rcases hc with ⟨rfl, hc⟩ | ⟨rfl, hc⟩
    all_goals
      go_enter Try.func51, Try.ntmps51
      go_wp2_with fail
      rename_i K hK
      go_loopw [21] (fun v21 wr => ∃ n : Nat, n ≤ m ∧ v21 = .int .i64 (n : Int) ∧ a.take n = k.take n ∧ ∃ m, wr = w.drewN m) (fun v21 _ => m - (intOf v21).toNat)
      case atStart => exact ⟨0, Nat.zero_le _, rfl, rfl, 0, rfl⟩
      case round =>
        obtain ⟨n, hn, rfl, ht, mm, hmm⟩ := hrel
        have HT := hid ht
        have hf : Fr [] w wr := by rw [hmm]; exact (Fr.refl _ _).drewN mm
        have HF := hid hf
        have HW := hid hmm
        clear ht hf hmm
        by_cases hlt : n < m
        · have l1 : n < a.length := by have := HN1.out; omega
          have l2 : n < k.length := by have := HN2.out; omega
          obtain ⟨x, hx⟩ : ∃ x, a[n]? = some x := ⟨_, List.getElem?_eq_getElem l1⟩
          obtain ⟨y, hy⟩ : ∃ y, k[n]? = some y := ⟨_, List.getElem?_eq_getElem l2⟩
          rcases H1.out with ⟨hb, _⟩ | ⟨b1, o1, d1, e1, _, _, g1⟩
          · rw [hb] at l1; simp at l1
          rcases H2.out with ⟨hb, _⟩ | ⟨b2, o2, d2, e2, _, _, g2⟩
          · rw [hb] at l2; simp at l2
          simp only [Value.slice.injEq] at e1 e2
          obtain ⟨rfl, _, rfl⟩ := e1
          obtain ⟨rfl, _, rfl⟩ := e2
          have z1 := cell_fr HF.out (g1 n x hx)
          have z2 := cell_fr HF.out (g2 n y hy)
          clear g1 g2
          by_cases hxy : x = y
          · subst hxy
            have B : Hid (a.take (n + 1) = k.take (n + 1)) := by
              refine hid ?_
              rw [List.take_add_one, List.take_add_one, HT.out, hx, hy]
            clear hx hy l1 l2
            go_upto_region 7 with fail
            go_quiet (fail)
            go_wp2
            go_roundw
            case rel => exact ⟨n + 1, by omega, by go_num, B.out, mm + nq, by rw [HW.out, World.drewN_drewN]⟩
            case measure => simp [intOf]; omega
          · have B : shr a k = n := shr_eq n a k HT.out (by omega) (by omega) (.inr ⟨x, y, hx, hy, hxy⟩)
            have HB := hid B
            clear hx hy l1 l2 B
            go_upto_region 7 with fail
            go_quiet (fail)
            go_wp2
            all_goals first
              | (go_ret; exact ⟨by rw [HB.out]; rfl, mm + nq, by rw [HW.out, World.drewN_drewN]⟩)
              | (exfalso; omega)
        · have hk' : n = m := by omega
          subst hk'
          have B : shr a k = n := shr_eq n a k HT.out (by have := HN1.out; omega) (by have := HN2.out; omega) (.inl (by rw [← HN1.out, ← HN2.out]; exact HM.out))
          have HB := hid B
          clear B
          go_wp2
          go_ret
          exact ⟨by rw [HB.out]; rfl, mm, HW.out⟩
theorem sharing_c (w : World) {v1 v2 : Value} {a k : List Nat} (i r : Nat) (hi : i ≤ 140737488355328) (hr : 1 ≤ r) (hr2 : r ≤ 64) (h1 : Rd w v1 (bv a)) (hla : a.length ≤ 140737488355328) (h2 : Rd w v2 (bv k)) (hlk : k.length ≤ 140737488355328) :
    Calls Try.prog 51 #[.int .i64 (i : Int), .int .i64 (r : Int), v1, v2] w fun e w' => e = .returned (.int .i64 ((if i % r = 0 then 0 else shr a k : Nat) : Int)) ∧ Fr [] w w' := by
  refine (sharing_q w i r hi hr hr2 h1 hla h2 hlk).mono ?_
  rintro e w' ⟨rfl, m, rfl⟩
  exact ⟨rfl, (Fr.refl _ _).drewN m⟩
end Go.Proofs.Ytobdegmlijnogaa
namespace Go.Proofs.Ytobdegmlijnogaa
open Go.ChangeShapes Go.WideShapes Go.ChangeAt Go.RowKit

theorem not_rises {ps : Ps} {i : Nat} (h : i < ps.length) (hf : flw (ahd ps i) (kA ps i) = false) : ¬ Rises ps := fun hr => by rw [hr i h] at hf; cases hf

set_option maxRecDepth 20000 in
set_option maxHeartbeats 1600000 in
theorem rising_c (w : World) {v : Value} {ps : Ps} (h : RdK w v ps) (hl : ps.length ≤ 1000000) :
    Calls Try.prog 48 #[v] w fun e w' => (e = .returned (.bool true) ∧ Rises ps ∨ e = .returned (.bool false) ∧ ¬ Rises ps) ∧ Fr [] w w' := by
  obtain ⟨a, c, rfl, hc, k1⟩ := h
  have H1 := hid k1
  clear k1
  obtain ⟨n, hn⟩ : ∃ n, n = ps.length := ⟨_, rfl⟩
  have HN := hid hn
  rw [← hn] at hl hc ⊢
  clear hn
  go_enter Try.func48, Try.ntmps48
  go_wp2_with fail
  go_loopw [3, 8] (fun v3 v8 wr => ∃ i : Nat, i ≤ n ∧ v8 = .int .i64 (i : Int) ∧ (Rd wr v3 (bv (ahd ps i)) ∧ By (ahd ps i) ∧ (ahd ps i).length ≤ 140737488355328 ∧ (∀ j, j < i → flw (ahd ps j) (kA ps j) = true)) ∧ Fr [] w wr) (fun _ v8 _ => n - (intOf v8).toNat)
  case atStart => exact ⟨0, Nat.zero_le _, rfl, ⟨.inl ⟨rfl, rfl⟩, fun n h => absurd h (by simp [ahd]), by simp [ahd], fun j h => by omega⟩, Fr.refl _ _⟩
  case round =>
    obtain ⟨i, hi, rfl, hr, hf⟩ := hrel
    have HR := hid hr
    have HF := hid hf
    clear hr hf
    by_cases hlt : i < n
    · have hil : i < ps.length := by rw [← HN.out]; exact hlt
      have hp := ps_at hil
      obtain ⟨b, off, rfl, m1⟩ := H1.out (by omega)
      obtain ⟨ka, kc, va, vc, P⟩ := m1 i _ hp
      have P2 := P.fr HF.out
      have z1 := P2.ck
      have z2 := P2.cv
      have HP := hid P2
      obtain ⟨lk, hlk⟩ : ∃ l, l = (kA ps i).length := ⟨_, rfl⟩
      obtain ⟨lv, hlv⟩ : ∃ l, l = (vA ps i).length := ⟨_, rfl⟩
      have HLK := hid hlk
      dsimp only at z1 z2
      rw [← hlk] at z1
      rw [← hlv] at z2
      obtain ⟨wx, hwx⟩ : ∃ wx, wx = wr.alloc (.cells #[.slice ka lk kc, .slice va lv vc] 41) := ⟨_, rfl⟩
      have fx : Fr [] wr wx := by rw [hwx]; exact (Fr.refl _ _).alloc _
      have FX := hid fx
      have HFW := hid (follows_c wx (HR.out.1.fr fx) HR.out.2.1 HR.out.2.2.1 (HP.out.rk.fr fx) HP.out.bk HP.out.lk)
      clear hlk hlv P P2 m1 hp fx hil
      go_wp2_with fail
      rw [← hwx]
      rw [← HLK.out] at HFW
      have bx : wx.heap[wr.heap.size]? = some (.cells #[.slice ka lk kc, .slice va lv vc] 41 (0, 0)) := by rw [hwx]; exact blk_new _ _
      clear hwx
      refine HFW.out.mono ?_
      rintro e w1 ⟨rfl, f1⟩
      have b1 := f1.at bx (by simp)
      have F1 := hid (FX.out.trans f1)
      have R1 := hid (HP.out.rk.fr (FX.out.trans f1))
      rw [← HLK.out] at R1
      clear HFW bx f1
      have hcell := blk_cell b1 0
      rcases hq : flw (ahd ps i) (kA ps i) with _ | _
      · have HQ := hid hq
        clear hq
        go_wp2
        go_ret
        exact ⟨.inr ⟨rfl, not_rises (by have := HN.out; omega) HQ.out⟩, HF.out.trans F1.out⟩
      · have HQ := hid hq
        clear hq
        go_wp2
        go_roundw
        case rel =>
          refine ⟨i + 1, by omega, by go_num, ⟨?_, ?_, ?_, ?_⟩, HF.out.trans F1.out⟩
          · rw [ahd_succ]; exact R1.out
          · rw [ahd_succ]; exact HP.out.bk
          · rw [ahd_succ]; exact HP.out.lk
          · intro j hj
            by_cases hji : j = i
            · subst hji; exact HQ.out
            · exact HR.out.2.2.2 j (by omega)
        case measure => simp [intOf]; omega
    · have hk' : i = n := by omega
      subst hk'
      go_wp2
      go_ret
      exact ⟨.inl ⟨rfl, fun j hj => HR.out.2.2.2 j (by rw [HN.out]; exact hj)⟩, HF.out⟩
end Go.Proofs.Ytobdegmlijnogaa
namespace Go.Proofs.Ytobdegmlijnogaa
open Go.ChangeShapes Go.WideShapes Go.ChangeAt Go.RowKit

theorem own_not {w : World} {B s n : Nat} {e T : TypeId} {v : Value} {xs : List Value} (h : w.ownsRow B e s v n xs) {N : Nat} {cs : Array Value} (hN : w.heap[N]? = some (.cells cs T (0, 0))) (hne : T ≠ e) : v.ownBlock ≠ some N := by
  intro hk
  rcases h.2 with ⟨rfl, _⟩ | ⟨g, cap, cur, rfl, _, h3, _⟩
  · simp [Value.ownBlock] at hk
  · simp [Value.ownBlock] at hk
    subst hk
    rw [h3] at hN
    simp at hN
    exact hne hN.2.symm
/-- A row of the call's own that grows: what else is there stays. -/
structure Gro (w w' : World) (B : Nat) (v v' : Value) (xs : List Nat) : Prop where
  own : w'.ownsRow B 5 1 v' xs.length (bv xs)
  fr : Fr v.ownBlock.toList w w'
  blk : v'.ownBlock = v.ownBlock ∨ ∀ k, v'.ownBlock = some k → w.heap.size ≤ k
theorem Gro.refl {w : World} {B : Nat} {v : Value} {xs : List Nat} (h : w.ownsRow B 5 1 v xs.length (bv xs)) : Gro w w B v v xs := ⟨h, Fr.refl _ _, .inl rfl⟩
theorem Gro.quiet {w w1 w2 : World} {B : Nat} {v v1 : Value} {xs : List Nat} (h : Gro w w1 B v v1 xs) (f : Fr [] w1 w2) : Gro w w2 B v v1 xs :=
  ⟨ownsRow_fr h.own f, h.fr.trans (f.mono (by simp)), h.blk⟩
theorem Gro.grow {w w1 w2 : World} {B : Nat} {v v1 v2 : Value} {xs ys : List Nat} (h : Gro w w1 B v v1 xs) (o : w2.ownsRow B 5 1 v2 ys.length (bv ys)) (g : w1.grownBy w2 v1.ownBlock) (q : v2.ownBlock = v1.ownBlock ∨ v2.ownBlock = some w1.heap.size) : Gro w w2 B v v2 ys := by
  refine ⟨o, h.fr.grown g ?_, ?_⟩
  · intro k hk
    rcases h.blk with e | e
    · left; rw [← e, hk]; simp
    · right; exact e k hk
  · rcases q with q | q
    · rw [q]; exact h.blk
    · right
      intro k hk
      rw [q] at hk
      simp at hk
      have := h.fr.size
      omega
theorem Gro.at {w w1 : World} {B : Nat} {v v1 : Value} {xs ys : List Nat} (h : Gro w w1 B v v1 xs) (o : w.ownsRow B 5 1 v ys.length (bv ys)) {N : Nat} {cs : Array Value} {T : TypeId} (hN : w.heap[N]? = some (.cells cs T (0, 0))) (hne : T ≠ 5) : w1.heap[N]? = some (.cells cs T (0, 0)) := by
  refine h.fr.at hN ?_
  intro hm
  rw [Option.mem_toList] at hm
  exact own_not o hN hne hm
def n3 (s t z j : Nat) : Nat := if j = 0 then s else if j = 1 then t else z
def p3 (s t z : Nat) : Nat → List Nat
  | 0 => []
  | j + 1 => p3 s t z j ++ putL (n3 s t z j)
theorem p3_len {s t z : Nat} (hs : s < 18446744073709551616) (ht : t < 18446744073709551616) (hz : z < 18446744073709551616) : ∀ j, (p3 s t z j).length ≤ 10 * j
  | 0 => by simp [p3]
  | j + 1 => by
    have h1 := p3_len hs ht hz j
    have h2 : (putL (n3 s t z j)).length ≤ 10 := putL_len10 (by unfold n3; split; exact hs; split; exact ht; exact hz)
    rw [p3, List.length_append]; omega
theorem p3_three (s t z : Nat) : p3 s t z 3 = putL s ++ (putL t ++ putL z) := by simp [p3, n3]
theorem Gro.old {w0 w w1 : World} {B : Nat} {v v1 : Value} {xs ys : List Nat} (h : Gro w w1 B v v1 xs) (o : w.ownsRow B 5 1 v ys.length (bv ys)) (f : Fr [] w0 w) (hB : w0.heap.size ≤ B) : Fr [] w0 w1 := by
  refine ((f.mono (S' := v.ownBlock.toList) (by simp)).trans h.fr).shed ?_
  intro k hk hlt
  rw [Option.mem_toList] at hk
  have := (o.lt k hk).1
  omega
theorem Gro.trans {w w1 w2 : World} {B : Nat} {v v1 v2 : Value} {xs ys : List Nat} (h : Gro w w1 B v v1 xs) (h' : Gro w1 w2 B v1 v2 ys) : Gro w w2 B v v2 ys := by
  refine ⟨h'.own, ?_, ?_⟩
  · refine ⟨h'.fr.os.trans h.fr.os, h'.fr.tape.trans h.fr.tape, h'.fr.output.trans h.fr.output, Nat.le_trans h.fr.size h'.fr.size, fun k hk hn => ?_⟩
    rw [h'.fr.block k (Nat.lt_of_lt_of_le hk h.fr.size) ?_, h.fr.block k hk hn]
    intro hm
    rw [Option.mem_toList] at hm
    rcases h.blk with e | e
    · exact hn (by rw [Option.mem_toList, ← e]; exact hm)
    · have := e k hm; omega
  · rcases h'.blk with e | e
    · rw [e]; exact h.blk
    · right; intro k hk; have := e k hk; have := h.fr.size; omega

set_option maxRecDepth 20000 in
set_option maxHeartbeats 3200000 in
theorem appendEntry_c (w0 w : World) {bval : Value} {q0 o0 c0 c1 : Nat} {a1 : Option Addr} {k v : List Nat} (s B : Nat) (hB0 : w0.heap.size ≤ B) (hB : B ≤ w.heap.size) (F0 : Fr [] w0 w) (xs : List Nat) (ob : w.ownsRow B 5 1 bval xs.length (bv xs)) (rk : Rd w0 (.slice (some ⟨q0, o0, none⟩) k.length c0) (bv k)) (kc : k.length ≤ c0) (rv : Rd w0 (.slice a1 v.length c1) (bv v)) (hs : s < k.length)
    (hxl : xs.length ≤ 1000000000000) (hkl : k.length ≤ 1000000000000) (hvl : v.length ≤ 1000000000000) :
    Calls Try.prog 50 #[bval, .agg #[.slice (some ⟨q0, o0, none⟩) k.length c0, .slice a1 v.length c1], .int .i64 (s : Int)] w fun e w' => ∃ v', e = .returned v' ∧ Gro w w' B bval v' (xs ++ ent s k v) := by
  have rt := rk.back (Nat.le_of_lt hs)
  have hcs : ¬ c0 = s := by omega
  have he : (xs ++ p3 s (k.length - s) v.length 3) ++ k.drop s ++ v = xs ++ ent s k v := by rw [p3_three]; unfold ent; simp only [List.append_assoc]
  have HE := hid he
  have RT := hid rt
  have RV := hid rv
  have OB := hid ob
  have FF := hid F0
  have hdl : (k.drop s).length = k.length - s := List.length_drop
  have HDL := hid hdl
  have ho : ∀ {N : Nat} {cs : Array Value} {T : TypeId}, w.heap[N]? = some (.cells cs T (0, 0)) → T ≠ 5 → bval.ownBlock ≠ some N := fun h1 h2 => own_not ob h1 h2
  clear rk rv he hdl rt F0 ob ho
  generalize k.length = lk at *
  generalize hlv : v.length = lv at *
  have HLV := hid hlv
  clear hlv
  obtain ⟨wz, hwz⟩ : ∃ wz, wz = (w.alloc (.cells #[.slice (some ⟨q0, o0, none⟩) lk c0, .slice a1 lv c1] 41)).alloc (.cells #[.int .i64 (s : Int), .int .i64 ((lk - s : Nat) : Int), .int .i64 (lv : Int)] 3) := ⟨_, rfl⟩
  have FZ : Hid (Fr [] w wz) := by refine hid ?_; rw [hwz]; exact ((Fr.refl _ _).alloc _).alloc _
  have hzs : wz.heap.size = w.heap.size + 2 := by rw [hwz]; simp
  have bz0 : wz.heap[w.heap.size]? = some (.cells #[.slice (some ⟨q0, o0, none⟩) lk c0, .slice a1 lv c1] 41 (0, 0)) := by
    rw [hwz, blk_old _ _ (by simp)]; exact blk_new _ _
  have bz1 : wz.heap[w.heap.size + 1]? = some (.cells #[.int .i64 (s : Int), .int .i64 ((lk - s : Nat) : Int), .int .i64 (lv : Int)] 3 (0, 0)) := by
    rw [hwz]; exact new_at _ _ (by simp)
  have HZ := hid (And.intro bz0 bz1)
  clear bz0 bz1
  go_enter Try.func50, Try.ntmps50
  go_wp2_with fail
  rw [← hwz]
  clear hwz
  go_loopw [0, 22] (fun v0 v22 wr => ∃ j : Nat, j ≤ 3 ∧ v22 = .int .i64 (j : Int) ∧ Gro wz wr B bval v0 (xs ++ p3 s (lk - s) lv j)) (fun _ v22 _ => 3 - (intOf v22).toNat)
  case atStart => exact ⟨0, by omega, rfl, by rw [p3, List.append_nil]; exact Gro.refl (ownsRow_fr OB.out FZ.out)⟩
  case round =>
    obtain ⟨j, hj, rfl, hg⟩ := hrel
    have HG := hid hg
    clear hg
    have oz := ownsRow_fr OB.out FZ.out
    have b1 := HG.out.at oz HZ.out.2 (by decide)
    have hpl := p3_len (s := s) (t := lk - s) (z := lv) (by omega) (by omega) (by omega) j
    by_cases hlt : j < 3
    · have hc : wr.cell? ⟨w.heap.size + 1, j, none⟩ = some (.int .i64 (n3 s (lk - s) lv j : Nat)) := by
        rw [blk_cell b1]
        have : j = 0 ∨ j = 1 ∨ j = 2 := by omega
        rcases this with rfl | rfl | rfl <;> rfl
      have hn3 : n3 s (lk - s) lv j ≤ 1000000000000 := by unfold n3; split; omega; split; omega; omega
      obtain ⟨m, hm⟩ : ∃ m, m = n3 s (lk - s) lv j := ⟨_, rfl⟩
      have HM := hid hm
      rw [← hm] at hc hn3
      clear hm oz b1
      have PC := hid (put_c wr m (by omega))
      go_wp2_with fail
      refine PC.out.mono ?_
      rintro e w1 ⟨pv, rfl, o1, f1⟩
      have O1 := hid o1
      have G1 := hid (HG.out.quiet f1)
      have hp10 := putL_len10 (n := m) (by omega)
      have hB1 : B ≤ w1.heap.size := by have := HG.out.fr.size; have := f1.size; omega
      clear o1 f1
      have hpp : xs ++ p3 s (lk - s) lv (j + 1) = (xs ++ p3 s (lk - s) lv j) ++ putL m := by rw [p3, HM.out, List.append_assoc]
      have HPP := hid hpp
      clear hpp
      go_wp2_with (at_builtin; refine wpList_append_rd rfl _ _ rfl B hB1 _ _ _ rfl G1.out.own _ _ rfl (Rd.ownB O1.out) bv_one (by rw [bv_len, List.length_append]; omega) ?_; intro v' w' o2 g2 q2)
      have G2 : Hid (Gro wz w' B bval v' (xs ++ p3 s (lk - s) lv (j + 1))) := by
        refine hid ?_
        rw [HPP.out]
        refine G1.out.grow ?_ g2 q2
        rw [bv_append, List.length_append]
        rw [bv_len] at o2
        exact o2
      clear o2 g2 q2
      go_roundw
      case rel => exact ⟨j + 1, by omega, by go_num, G2.out⟩
      case measure => simp [intOf]; omega
    · have hj3 : j = 3 := by omega
      subst hj3
      have f0 : Fr [] w0 wr := HG.out.old oz (FF.out.trans FZ.out) hB0
      have RT1 := hid (RT.out.fr f0)
      have hB1 : B ≤ wr.heap.size := by have := HG.out.fr.size; omega
      have hrd : ((bv (k.drop s)).length) = lk - s := by rw [bv_len]; exact HDL.out
      clear b1 oz f0
      have hrv : ((bv v).length) = lv := by rw [bv_len]; exact HLV.out
      go_wp2_with (at_builtin; first
        | (refine wpList_append_rd rfl _ _ rfl B hB1 _ _ _ rfl HG.out.own _ _ rfl RT1.out bv_one (by rw [hrd, List.length_append]; omega) ?_; intro v' w' o2 g2 q2; have G2 : Hid (Gro wz w' B bval v' (xs ++ p3 s (lk - s) lv 3 ++ k.drop s)) := hid (HG.out.grow (by rw [bv_append, List.length_append, ← bv_len (k.drop _)]; exact o2) g2 q2); have y1 : w'.cell? ⟨w.heap.size, 1, none⟩ = some (.slice a1 lv c1) := (by rw [blk_cell (G2.out.at (ownsRow_fr OB.out FZ.out) HZ.out.1 (by decide))]; rfl); have RV2 : Hid (Rd w' (.slice a1 lv c1) (bv v)) := hid (RV.out.fr (G2.out.old (ownsRow_fr OB.out FZ.out) (FF.out.trans FZ.out) hB0)); have hB2 : B ≤ w'.heap.size := (by have := G2.out.fr.size; omega); clear o2 g2 q2)
        | (refine wpList_append_rd rfl _ _ rfl B hB2 _ _ _ rfl G2.out.own _ _ rfl RV2.out bv_one (by rw [hrv, List.length_append, List.length_append, HDL.out]; omega) ?_; intro v3 w3 o3 g3 q3; have G3 : Hid (Gro wz w3 B bval v3 (xs ++ p3 s (lk - s) lv 3 ++ k.drop s ++ v)) := hid (G2.out.grow (by rw [bv_append, List.length_append, ← bv_len v]; exact o3) g3 q3); clear o3 g3 q3))
      go_ret
      refine ⟨v3, rfl, ?_⟩
      rw [← HE.out]
      refine ⟨G3.out.own, ?_, ?_⟩
      · exact (FZ.out.mono (by simp)).trans G3.out.fr
      · rcases G3.out.blk with e | e
        · exact .inl e
        · right; intro g hg; have := e g hg; omega
end Go.Proofs.Ytobdegmlijnogaa
