/-
  The document's blocks: shared, Rises.
-/
import Derived.Test.YthmlpjogbdpgiaaJ15
import Derived.Test.YthmlpjogbdpgiaaTX
import Derived.Test.YthmlpjogbdpgiaaJ05
namespace Go.Proofs.Ythmlpjogbdpgiaa
open Go.ChangeShapes Go.WideShapes Go.ChangeAt Go.RowKit

set_option maxRecDepth 20000 in
set_option maxHeartbeats 1600000 in
theorem rrises_c (w : World) {v : Value} {ps : Ps} (h : RdK w v ps) (hl : ps.length ≤ 1000000) :
    Calls Try.prog 23 #[v] w fun e w' => (e = .returned (.bool true) ∧ Rises ps ∨ e = .returned (.bool false) ∧ ¬ Rises ps) ∧ Fr [] w w' := by
  have HBY := hid h.by
  obtain ⟨a, c, rfl, hc, k1⟩ := h
  have H1 := hid k1
  clear k1
  obtain ⟨n, hn⟩ : ∃ n, n = ps.length := ⟨_, rfl⟩
  have HN := hid hn
  rw [← hn] at hl hc ⊢
  clear hn
  go_enter Try.func23, Try.ntmps23
  go_wp2_with fail
  go_loopw [3] (fun v3 wr => ∃ i : Nat, i ≤ n ∧ v3 = .int .i64 (i : Int) ∧ (∀ j, j < i → flw (ahd ps j) (kA ps j) = true) ∧ Fr [] w wr) (fun v3 _ => n - (intOf v3).toNat)
  case atStart => exact ⟨0, Nat.zero_le _, rfl, fun j h => by omega, Fr.refl _ _⟩
  case round =>
    obtain ⟨i, hi, rfl, hr, hf⟩ := hrel
    have HR := hid hr
    have HF := hid hf
    clear hr hf
    by_cases hlt : i < n
    · have hil : i < ps.length := by rw [← HN.out]; exact hlt
      obtain ⟨b, off, rfl, m1⟩ := H1.out (by omega)
      obtain ⟨ka, kc, va, vc, P⟩ := m1 i _ (ps_at hil)
      have z1 := cell_fr HF.out P.ck
      have HIS := hid (fun m : Nat => is_c (wr.drewN m) ((P.rk.fr HF.out).fr ((Fr.refl [] wr).drewN m)) P.bk P.lk)
      dsimp only at z1 HIS
      have HP := hid P
      clear P
      obtain ⟨lk, hlk⟩ : ∃ l, l = (kA ps i).length := ⟨_, rfl⟩
      rw [← hlk] at z1 HIS
      have HLK := hid hlk
      clear hlk
      rcases hk : isK (kA ps i) with _ | _
      · rw [hk] at HIS
        have HNO : Hid (¬ Rises ps) := hid (not_rises hil (by
          rcases hf : flw (ahd ps i) (kA ps i) with _ | _
          · rfl
          · rw [flw_isK hf] at hk; cases hk))
        clear m1 hil hk
        go_upto_region 4 with fail
        go_quiet ((go_at_call 37; exact Calls.quiet_of_same (HIS.out _)))
        go_wp2
        go_ret
        exact ⟨.inr ⟨rfl, HNO.out⟩, HF.out.drewN nq⟩
      rw [hk] at HIS
      by_cases h0 : i = 0
      · have HYS : Hid (∀ j, j < i + 1 → flw (ahd ps j) (kA ps j) = true) := hid fun j hj => by
          have : j = i := by omega
          subst this
          unfold flw ahd
          rw [if_pos h0, if_pos rfl]; exact hk
        have hd : decide (0 < i) = false := decide_eq_false (by omega)
        clear h0
        clear m1 hil hk
        go_upto_region 4 with fail
        go_quiet ((go_at_call 37; exact Calls.quiet_of_same (HIS.out _)))
        go_wp2
        go_roundw
        case rel => exact ⟨i + 1, by omega, by go_num, HYS.out, HF.out.drewN nq⟩
        case measure => simp [intOf]; omega
      obtain ⟨i', rfl⟩ : ∃ i', i = i' + 1 := ⟨i - 1, by omega⟩
      have hil' : i' < ps.length := by omega
      have hk' := flw_isK (HR.out i' (by omega))
      obtain ⟨ja, jc, ua, uc, P2⟩ := m1 i' _ (ps_at hil')
      have z2 := cell_fr HF.out P2.ck
      have HOR := hid (fun m : Nat => order_q (wr.drewN m) ((P2.rk.fr HF.out).fr ((Fr.refl [] wr).drewN m)) P2.bk hk' ((HP.out.rk.fr HF.out).fr ((Fr.refl [] wr).drewN m)) HP.out.bk hk)
      dsimp only at z2 HOR
      rw [← HLK.out] at HOR
      have hne : kA ps i' ≠ [] := fun e => by have := isK_len hk'; rw [e] at this; simp at this
      have HFL : Hid (flw (ahd ps (i' + 1)) (kA ps (i' + 1)) = decide (ordK (kA ps i') (kA ps (i' + 1)) < 0)) := hid (by
        rw [ahd_succ]; unfold flw; rw [if_neg hne, hk', hk]; rfl)
      generalize hod : ordK (kA ps i') (kA ps (i' + 1)) = od at *
      generalize (kA ps i').length = lj at *
      have hpos : decide ((0 : Int) < ((i' : Int) + 1)) = true := decide_eq_true (by omega)
      have hsub : IntKind.i64.wrap ((i' : Int) + 1 - 1) = (i' : Int) := by rw [IntKind.wrap_i64]; omega
      have hin : (i' : Int) < (n : Int) := by omega
      by_cases hneg : od < 0
      · have HYS : Hid (∀ j, j < i' + 1 + 1 → flw (ahd ps j) (kA ps j) = true) := hid fun j hj => by
          rcases Nat.lt_or_ge j (i' + 1) with h | h
          · exact HR.out j h
          · have : j = i' + 1 := by omega
            subst this; rw [HFL.out]; exact decide_eq_true hneg
        clear m1 hil hk hk' hod hil' P2 hne
        go_upto_region 4 with fail
        go_quiet (first | (go_at_call 37; exact Calls.quiet_of_same (HIS.out _)) | (go_at_call 34; exact Calls.quiet_of (HOR.out _)))
        go_wp2
        go_roundw
        case rel => exact ⟨i' + 1 + 1, by omega, by go_num, HYS.out, HF.out.drewN nq⟩
        case measure => simp [intOf]; omega
      · have HNO : Hid (¬ Rises ps) := hid (not_rises hil (by rw [HFL.out]; exact decide_eq_false hneg))
        clear m1 hil hk hk' hod hil' P2 hne
        go_upto_region 4 with fail
        go_quiet (first | (go_at_call 37; exact Calls.quiet_of_same (HIS.out _)) | (go_at_call 34; exact Calls.quiet_of (HOR.out _)))
        go_wp2
        go_ret
        exact ⟨.inr ⟨rfl, HNO.out⟩, HF.out.drewN nq⟩
    · have hie : i = n := by omega
      subst hie
      go_wp2
      go_ret
      exact ⟨.inl ⟨rfl, fun j hj => HR.out j (by rw [HN.out]; exact hj)⟩, HF.out⟩
end Go.Proofs.Ythmlpjogbdpgiaa
namespace Go.Proofs.Ythmlpjogbdpgiaa
open Go.ChangeShapes Go.WideShapes Go.ChangeAt Go.RowKit

set_option maxHeartbeats 400000 in
theorem bytesEqual_c {w : World} {v1 v2 : Value} {a b : List Nat} (h1 : Rd w v1 (bv a)) (h2 : Rd w v2 (bv b)) (ha : By a) (hb : By b) :
    Calls Try.prog 29 #[v1, v2] w fun e w' => e = .returned (.bool (decide (a = b))) ∧ w' = w := by
  have e1 := run_conv h1
  have e2 := run_conv h2
  obtain ⟨a1, c1, rfl⟩ := h1.form
  obtain ⟨a2, c2, rfl⟩ := h2.form
  by_cases hab : a = b
  · subst hab
    have e3 := ba_beq (strOf a)
    rw [decide_eq_true rfl]
    clear h1 h2
    go_enter Try.func29, Try.ntmps29
    go_wp2
    go_ret
    exact ⟨rfl, rfl⟩
  · have e3 : ((strOf a).toList == (strOf b).toList) = false := beq_eq_false_iff_ne.2 fun h => hab (strOf_inj ha hb (by
      rw [ByteArray.toList_eq, ByteArray.toList_eq] at h
      exact ByteArray.ext (Array.toList_inj.1 h)))
    rw [decide_eq_false hab]
    clear h1 h2 hab
    go_enter Try.func29, Try.ntmps29
    go_wp2
    go_ret
    exact ⟨by simp, rfl⟩

def ViewR (e : Ending) (w : World) (o : Option (List Nat × List Nat)) : Prop := match o with
  | none => e = .returned (.tuple #[.slice none 0 0, .bool false])
  | some p => (tailN p.1 % 256 = 1 ∧ ∃ vv, e = .returned (.tuple #[vv, .bool true]) ∧ Rd w vv (bv p.2)) ∨ (tailN p.1 % 256 ≠ 1 ∧ e = .returned (.tuple #[.slice none 0 0, .bool false]))

/-- What is seen of a user key: the first entry that may be seen, whatever the keys are. -/
def vwG (ps : Ps) (u : List Nat) (s : Nat) : Option (List Nat × List Nat) := ps.find? fun p => isK p.1 && (decide (userL p.1 = u) && decide (tailN p.1 / 256 ≤ s))
theorem vwG_drop {ps : Ps} {u : List Nat} {s i : Nat} (hi : i < ps.length) : vwG (ps.drop i) u s = if isK (kA ps i) = true ∧ userL (kA ps i) = u ∧ tailN (kA ps i) / 256 ≤ s then some (kA ps i, vA ps i) else vwG (ps.drop (i + 1)) u s := by
  have e : ps.drop i = (kA ps i, vA ps i) :: ps.drop (i + 1) := by
    obtain ⟨hl, he⟩ := List.getElem?_eq_some_iff.1 (ps_at hi)
    rw [List.drop_eq_getElem_cons hl, he]
  unfold vwG
  rw [e, List.find?_cons]
  by_cases h : isK (kA ps i) = true ∧ userL (kA ps i) = u ∧ tailN (kA ps i) / 256 ≤ s
  · have : (isK (kA ps i) && (decide (userL (kA ps i) = u) && decide (tailN (kA ps i) / 256 ≤ s))) = true := by
      rw [h.1, decide_eq_true h.2.1, decide_eq_true h.2.2]; rfl
    rw [if_pos h]
    simp only [this]
  · have : (isK (kA ps i) && (decide (userL (kA ps i) = u) && decide (tailN (kA ps i) / 256 ≤ s))) = false := by
      rcases hx : (isK (kA ps i) && (decide (userL (kA ps i) = u) && decide (tailN (kA ps i) / 256 ≤ s))) with _ | _
      · rfl
      · simp only [Bool.and_eq_true, decide_eq_true_eq] at hx
        exact absurd hx h
    rw [if_neg h]
    simp only [this]

set_option maxRecDepth 20000 in
set_option maxHeartbeats 3200000 in
theorem cview_c (w : World) {v : Value} {ps : Ps} (h : RdK w v ps) (hn : ps.length ≤ 1000000) {kv : Value} {user : List Nat} (ru : Rd w kv (bv user)) (bu : By user) (seq : Nat) :
    Calls Try.prog 15 #[v, kv, .int .u64 (seq : Int)] w fun e w' => ViewR e w' (vwG ps user seq) ∧ Fr [] w w' := by
  obtain ⟨a, c, rfl, hc, k1⟩ := h
  have H1 := hid k1
  have HU := hid ru
  have HBU := hid bu
  clear k1 bu
  obtain ⟨ua, uc, hue⟩ := ru.form
  rw [bv_len] at hue
  subst hue
  clear ru
  obtain ⟨n, hnn⟩ : ∃ n, n = ps.length := ⟨_, rfl⟩
  have HN := hid hnn
  rw [← hnn] at hn hc ⊢
  clear hnn
  obtain ⟨R, hR⟩ : ∃ R, R = vwG ps user seq := ⟨_, rfl⟩
  rw [← hR]
  have HR := hid hR
  clear hR
  obtain ⟨UL, hUL⟩ : ∃ UL, UL = user.length := ⟨_, rfl⟩
  have HUL := hid hUL
  rw [← hUL] at HU ⊢
  clear hUL
  go_enter Try.func15, Try.ntmps15
  go_wp2_with fail
  go_loopw [16] (fun v16 wr => ∃ i : Nat, i ≤ n ∧ v16 = .int .i64 (i : Int) ∧ R = vwG (ps.drop i) user seq ∧ Fr [] w wr) (fun v16 _ => n - (intOf v16).toNat)
  case atStart => exact ⟨0, Nat.zero_le _, rfl, HR.out, Fr.refl _ _⟩
  case round =>
    obtain ⟨i, hi, rfl, hv, hf⟩ := hrel
    have HF := hid hf
    have HV := hid hv
    clear hf hv
    by_cases hlt : i < n
    · have hil : i < ps.length := by rw [← HN.out]; exact hlt
      obtain ⟨b, off, rfl, m1⟩ := H1.out (by omega)
      obtain ⟨ka, kc, va, vc, P⟩ := m1 i _ (ps_at hil)
      have z1 := cell_fr HF.out P.ck
      have z2 := cell_fr HF.out P.cv
      have RK := hid (P.rk.fr HF.out)
      have RV := hid (P.rv.fr HF.out)
      have BK := hid P.bk
      have hlk := P.lk
      have hlv := P.lv
      have VD := hid (vwG_drop (ps := ps) (u := user) (s := seq) hil)
      dsimp only at z1 z2 RK RV BK hlk hlv
      clear P m1
      obtain ⟨k, hkk⟩ : ∃ k, k = kA ps i := ⟨_, rfl⟩
      obtain ⟨vl, hvl⟩ : ∃ vl, vl = vA ps i := ⟨_, rfl⟩
      rw [← hkk] at z1 RK BK VD hlk
      rw [← hvl] at z2 RV VD hlv
      clear hkk hvl
      obtain ⟨W, hW⟩ : ∃ W, W = wr.alloc (.cells #[.slice ka k.length kc, .slice va vl.length vc] 50) := ⟨_, rfl⟩
      have FW : Hid (Fr [] w W) := hid (by rw [hW]; exact HF.out.alloc _)
      have XW : Hid (W.heap[wr.heap.size]? = some (.cells #[.slice ka k.length kc, .slice va vl.length vc] 50 (0, 0))) := hid (by rw [hW]; exact blk_new _ _)
      have RK2 : Hid (Rd W (.slice ka k.length kc) (bv k)) := hid (by rw [hW]; exact RK.out.fr ((Fr.refl _ _).alloc _))
      have RV2 : Hid (Rd W (.slice va vl.length vc) (bv vl)) := hid (by rw [hW]; exact RV.out.fr ((Fr.refl _ _).alloc _))
      have y0 := blk_cell XW.out 0
      have y1 := blk_cell XW.out 1
      simp at y0 y1
      have HLV : Hid (vl.length ≤ 140737488355328) := hid hlv
      clear RK RV HF
      go_upto_region 4 with fail
      rw [← hW]
      clear hW
      rcases hk : isK k with _ | _
      · have HNX : Hid (R = vwG (ps.drop (i + 1)) user seq) := hid (by rw [HV.out, VD.out, if_neg (by rw [hk]; simp)])
        have SP := hid (Split_no W RK2.out BK.out hlk hk)
        clear hk
        obtain ⟨kl, hkl⟩ : ∃ kl, kl = k.length := ⟨_, rfl⟩
        obtain ⟨wl, hwl⟩ : ∃ wl, wl = vl.length := ⟨_, rfl⟩
        rw [← hkl] at y0 SP hlk ⊢
        rw [← hwl] at y1 ⊢
        clear hkl hwl VD HV
        go_wp2_with fail
        refine SP.out.mono ?_
        rintro e w2 ⟨rfl, f2⟩
        have F2 := hid (FW.out.trans f2)
        clear f2
        go_wp2
        go_roundw
        case rel => exact ⟨i + 1, by omega, by go_num, HNX.out, F2.out⟩
        case measure => simp [intOf]; omega
      · have SP := hid (Split_yes W RK2.out BK.out hk)
        obtain ⟨sq, hsq⟩ : ∃ sq, sq = tailN k / 256 := ⟨_, rfl⟩
        obtain ⟨kd, hkd⟩ : ∃ kd, kd = tailN k % 256 := ⟨_, rfl⟩
        rw [← hsq, ← hkd] at SP
        have HSQ := hid hsq
        have HKD := hid hkd
        have BF : Hid (By (userL k)) := hid (BK.out.take _)
        obtain ⟨kl, hkl⟩ : ∃ kl, kl = k.length := ⟨_, rfl⟩
        obtain ⟨wl, hwl⟩ : ∃ wl, wl = vl.length := ⟨_, rfl⟩
        have HWL := hid hwl
        rw [← hkl] at y0 SP hlk XW ⊢
        rw [← hwl] at y1 RV2 XW ⊢
        have HK := hid hk
        clear hkl hwl hsq hkd hk
        go_wp2_with fail
        refine SP.out.mono ?_
        rintro e w2 ⟨v2, rfl, o2, f2⟩
        obtain ⟨sa, sc, rfl, _⟩ := ownsRow_slice o2
        have F2 := hid (FW.out.trans f2)
        have X2 := hid (f2.at XW.out (by simp))
        have BE := hid (bytesEqual_c (Rd.ownB o2) (HU.out.fr F2.out) BF.out HBU.out)
        have RV3 := hid (RV2.out.fr f2)
        obtain ⟨ul, hul⟩ : ∃ ul, ul = (userL k).length := ⟨_, rfl⟩
        rw [← hul] at BE ⊢
        clear hul o2 f2 y0 y1 RV2 XW
        have y0 := blk_cell X2.out 0
        have y1 := blk_cell X2.out 1
        simp at y0 y1
        by_cases hs : sq ≤ seq
        · have hs' : ¬ (seq : Int) < (sq : Int) := by omega
          by_cases hu : userL k = user
          · rw [decide_eq_true hu] at BE
            have HRR : Hid (R = some (k, vl)) := hid (by rw [HV.out, VD.out, if_pos ⟨HK.out, hu, by rw [← HSQ.out]; exact hs⟩])
            clear hu VD HV
            go_wp2_with fail
            refine BE.out.mono ?_
            rintro e w3 ⟨rfl, hw3⟩
            have hw3' := hw3.symm
            clear hw3
            subst hw3'
            clear BE
            by_cases hk1 : kd = 1
            · subst hk1
              go_wp2_with fail
              refine (clone_c RV3.out HLV.out).mono ?_
              rintro e w4 ⟨v4, rfl, o4, f4⟩
              have R4 := hid (Rd.ownB o4)
              have F4 := hid (F2.out.trans f4)
              clear o4 f4
              go_wp2
              go_ret2
              rw [HRR.out]
              exact ⟨.inl ⟨HKD.out.symm, v4, rfl, R4.out⟩, F4.out⟩
            · have hk1' : ((kd : Int) == 1) = false := beq_eq_false_iff_ne.2 (by omega)
              go_wp2
              go_ret2
              rw [HRR.out]
              exact ⟨.inr ⟨by rw [← HKD.out]; exact hk1, rfl⟩, F2.out⟩
          · rw [decide_eq_false hu] at BE
            have HNX : Hid (R = vwG (ps.drop (i + 1)) user seq) := hid (by rw [HV.out, VD.out, if_neg (fun h => hu h.2.1)])
            clear hu VD HV
            go_wp2_with fail
            refine BE.out.mono ?_
            rintro e w3 ⟨rfl, hw3⟩
            have hw3' := hw3.symm
            clear hw3
            subst hw3'
            clear BE
            go_wp2
            go_roundw
            case rel => exact ⟨i + 1, by omega, by go_num, HNX.out, F2.out⟩
            case measure => simp [intOf]; omega
        · have hs' : (seq : Int) < (sq : Int) := by omega
          have HNX : Hid (R = vwG (ps.drop (i + 1)) user seq) := hid (by rw [HV.out, VD.out, if_neg (fun h => hs (by rw [HSQ.out]; exact h.2.2))])
          clear VD HV BE
          go_wp2
          go_roundw
          case rel => exact ⟨i + 1, by omega, by go_num, HNX.out, F2.out⟩
          case measure => simp [intOf]; omega
    · have hie : i = n := by omega
      subst hie
      have HR0 : Hid (R = none) := hid (by rw [HV.out, HN.out, List.drop_length]; rfl)
      go_wp2
      go_ret2
      rw [HR0.out]
      exact ⟨rfl, HF.out⟩
end Go.Proofs.Ythmlpjogbdpgiaa
