/-
  compact.View in general: entries whose keys are whatever bytes.
-/
import Derived.Test.YthmlpjogbdpgiaaJ13
import Derived.Test.YthmlpjogbdpgiaaJ11
import Derived.Test.YthmlpjogbdpgiaaJ04
import Derived.Test.YthmlpjogbdpgiaaJ12
import Derived.Test.YthmlpjogbdpgiaaJ05
namespace Go.Proofs.Ythmlpjogbdpgiaa
open Go.ChangeShapes Go.WideShapes Go.ChangeAt Go.RowKit

set_option maxHeartbeats 400000 in
theorem bytesEqual_c {w : World} {v1 v2 : Value} {a b : List Nat} (h1 : Rd w v1 (bv a)) (h2 : Rd w v2 (bv b)) (ha : By a) (hb : By b) :
    Calls Try.prog 29 #[v1, v2] w fun e w' => e = .returned (.bool (decide (a = b))) ∧ w' = w := by
  have e1 := run_conv h1
  have e2 := run_conv h2
  obtain ⟨a1, c1, rfl⟩ := h1.form
  obtain ⟨a2, c2, rfl⟩ := h2.form
  by_cases hab : a = b
  · subst hab
    have e3 := ba_beq (strOf a)
    rw [decide_eq_true rfl]
    clear h1 h2
    go_enter Try.func29, Try.ntmps29
    go_wp2
    go_ret
    exact ⟨rfl, rfl⟩
  · have e3 : ((strOf a).toList == (strOf b).toList) = false := beq_eq_false_iff_ne.2 fun h => hab (strOf_inj ha hb (by
      rw [ByteArray.toList_eq, ByteArray.toList_eq] at h
      exact ByteArray.ext (Array.toList_inj.1 h)))
    rw [decide_eq_false hab]
    clear h1 h2 hab
    go_enter Try.func29, Try.ntmps29
    go_wp2
    go_ret
    exact ⟨by simp, rfl⟩

def ViewR (e : Ending) (w : World) (o : Option (List Nat × List Nat)) : Prop := match o with
  | none => e = .returned (.tuple #[.slice none 0 0, .bool false])
  | some p => (tailN p.1 % 256 = 1 ∧ ∃ vv, e = .returned (.tuple #[vv, .bool true]) ∧ Rd w vv (bv p.2)) ∨ (tailN p.1 % 256 ≠ 1 ∧ e = .returned (.tuple #[.slice none 0 0, .bool false]))

/-- What is seen of a user key: the first entry that may be seen, whatever the keys are. -/
def vwG (ps : Ps) (u : List Nat) (s : Nat) : Option (List Nat × List Nat) := ps.find? fun p => isK p.1 && (decide (userL p.1 = u) && decide (tailN p.1 / 256 ≤ s))
theorem vwG_drop {ps : Ps} {u : List Nat} {s i : Nat} (hi : i < ps.length) : vwG (ps.drop i) u s = if isK (kA ps i) = true ∧ userL (kA ps i) = u ∧ tailN (kA ps i) / 256 ≤ s then some (kA ps i, vA ps i) else vwG (ps.drop (i + 1)) u s := by
  have e : ps.drop i = (kA ps i, vA ps i) :: ps.drop (i + 1) := by
    obtain ⟨hl, he⟩ := List.getElem?_eq_some_iff.1 (ps_at hi)
    rw [List.drop_eq_getElem_cons hl, he]
  unfold vwG
  rw [e, List.find?_cons]
  by_cases h : isK (kA ps i) = true ∧ userL (kA ps i) = u ∧ tailN (kA ps i) / 256 ≤ s
  · have : (isK (kA ps i) && (decide (userL (kA ps i) = u) && decide (tailN (kA ps i) / 256 ≤ s))) = true := by
      rw [h.1, decide_eq_true h.2.1, decide_eq_true h.2.2]; rfl
    rw [if_pos h]
    simp only [this]
  · have : (isK (kA ps i) && (decide (userL (kA ps i) = u) && decide (tailN (kA ps i) / 256 ≤ s))) = false := by
      rcases hx : (isK (kA ps i) && (decide (userL (kA ps i) = u) && decide (tailN (kA ps i) / 256 ≤ s))) with _ | _
      · rfl
      · simp only [Bool.and_eq_true, decide_eq_true_eq] at hx
        exact absurd hx h
    rw [if_neg h]
    simp only [this]

set_option maxRecDepth 20000 in
set_option maxHeartbeats 3200000 in
theorem cview_c (w : World) {v : Value} {ps : Ps} (h : RdK w v ps) (hn : ps.length ≤ 1000000) {kv : Value} {user : List Nat} (ru : Rd w kv (bv user)) (bu : By user) (seq : Nat) :
    Calls Try.prog 15 #[v, kv, .int .u64 (seq : Int)] w fun e w' => ViewR e w' (vwG ps user seq) ∧ Fr [] w w' := by
  obtain ⟨a, c, rfl, hc, k1⟩ := h
  have H1 := hid k1
  have HU := hid ru
  have HBU := hid bu
  clear k1 bu
  obtain ⟨ua, uc, hue⟩ := ru.form
  rw [bv_len] at hue
  subst hue
  clear ru
  obtain ⟨n, hnn⟩ : ∃ n, n = ps.length := ⟨_, rfl⟩
  have HN := hid hnn
  rw [← hnn] at hn hc ⊢
  clear hnn
  obtain ⟨R, hR⟩ : ∃ R, R = vwG ps user seq := ⟨_, rfl⟩
  rw [← hR]
  have HR := hid hR
  clear hR
  obtain ⟨UL, hUL⟩ : ∃ UL, UL = user.length := ⟨_, rfl⟩
  have HUL := hid hUL
  rw [← hUL] at HU ⊢
  clear hUL
  go_enter Try.func15, Try.ntmps15
  go_wp2_with fail
  go_loopw [16] (fun v16 wr => ∃ i : Nat, i ≤ n ∧ v16 = .int .i64 (i : Int) ∧ R = vwG (ps.drop i) user seq ∧ Fr [] w wr) (fun v16 _ => n - (intOf v16).toNat)
  case atStart => exact ⟨0, Nat.zero_le _, rfl, HR.out, Fr.refl _ _⟩
  case round =>
    obtain ⟨i, hi, rfl, hv, hf⟩ := hrel
    have HF := hid hf
    have HV := hid hv
    clear hf hv
    by_cases hlt : i < n
    · have hil : i < ps.length := by rw [← HN.out]; exact hlt
      obtain ⟨b, off, rfl, m1⟩ := H1.out (by omega)
      obtain ⟨ka, kc, va, vc, P⟩ := m1 i _ (ps_at hil)
      have z1 := cell_fr HF.out P.ck
      have z2 := cell_fr HF.out P.cv
      have RK := hid (P.rk.fr HF.out)
      have RV := hid (P.rv.fr HF.out)
      have BK := hid P.bk
      have hlk := P.lk
      have hlv := P.lv
      have VD := hid (vwG_drop (ps := ps) (u := user) (s := seq) hil)
      dsimp only at z1 z2 RK RV BK hlk hlv
      clear P m1
      obtain ⟨k, hkk⟩ : ∃ k, k = kA ps i := ⟨_, rfl⟩
      obtain ⟨vl, hvl⟩ : ∃ vl, vl = vA ps i := ⟨_, rfl⟩
      rw [← hkk] at z1 RK BK VD hlk
      rw [← hvl] at z2 RV VD hlv
      clear hkk hvl
      obtain ⟨W, hW⟩ : ∃ W, W = wr.alloc (.cells #[.slice ka k.length kc, .slice va vl.length vc] 50) := ⟨_, rfl⟩
      have FW : Hid (Fr [] w W) := hid (by rw [hW]; exact HF.out.alloc _)
      have XW : Hid (W.heap[wr.heap.size]? = some (.cells #[.slice ka k.length kc, .slice va vl.length vc] 50 (0, 0))) := hid (by rw [hW]; exact blk_new _ _)
      have RK2 : Hid (Rd W (.slice ka k.length kc) (bv k)) := hid (by rw [hW]; exact RK.out.fr ((Fr.refl _ _).alloc _))
      have RV2 : Hid (Rd W (.slice va vl.length vc) (bv vl)) := hid (by rw [hW]; exact RV.out.fr ((Fr.refl _ _).alloc _))
      have y0 := blk_cell XW.out 0
      have y1 := blk_cell XW.out 1
      simp at y0 y1
      have HLV : Hid (vl.length ≤ 140737488355328) := hid hlv
      clear RK RV HF
      go_upto_region 4 with fail
      rw [← hW]
      clear hW
      rcases hk : isK k with _ | _
      · have HNX : Hid (R = vwG (ps.drop (i + 1)) user seq) := hid (by rw [HV.out, VD.out, if_neg (by rw [hk]; simp)])
        have SP := hid (Split_no W RK2.out BK.out hlk hk)
        clear hk
        obtain ⟨kl, hkl⟩ : ∃ kl, kl = k.length := ⟨_, rfl⟩
        obtain ⟨wl, hwl⟩ : ∃ wl, wl = vl.length := ⟨_, rfl⟩
        rw [← hkl] at y0 SP hlk ⊢
        rw [← hwl] at y1 ⊢
        clear hkl hwl VD HV
        go_wp2_with fail
        refine SP.out.mono ?_
        rintro e w2 ⟨rfl, f2⟩
        have F2 := hid (FW.out.trans f2)
        clear f2
        go_wp2
        go_roundw
        case rel => exact ⟨i + 1, by omega, by go_num, HNX.out, F2.out⟩
        case measure => simp [intOf]; omega
      · have SP := hid (Split_yes W RK2.out BK.out hk)
        obtain ⟨sq, hsq⟩ : ∃ sq, sq = tailN k / 256 := ⟨_, rfl⟩
        obtain ⟨kd, hkd⟩ : ∃ kd, kd = tailN k % 256 := ⟨_, rfl⟩
        rw [← hsq, ← hkd] at SP
        have HSQ := hid hsq
        have HKD := hid hkd
        have BF : Hid (By (userL k)) := hid (BK.out.take _)
        obtain ⟨kl, hkl⟩ : ∃ kl, kl = k.length := ⟨_, rfl⟩
        obtain ⟨wl, hwl⟩ : ∃ wl, wl = vl.length := ⟨_, rfl⟩
        have HWL := hid hwl
        rw [← hkl] at y0 SP hlk XW ⊢
        rw [← hwl] at y1 RV2 XW ⊢
        have HK := hid hk
        clear hkl hwl hsq hkd hk
        go_wp2_with fail
        refine SP.out.mono ?_
        rintro e w2 ⟨v2, rfl, o2, f2⟩
        obtain ⟨sa, sc, rfl, _⟩ := ownsRow_slice o2
        have F2 := hid (FW.out.trans f2)
        have X2 := hid (f2.at XW.out (by simp))
        have BE := hid (bytesEqual_c (Rd.ownB o2) (HU.out.fr F2.out) BF.out HBU.out)
        have RV3 := hid (RV2.out.fr f2)
        obtain ⟨ul, hul⟩ : ∃ ul, ul = (userL k).length := ⟨_, rfl⟩
        rw [← hul] at BE ⊢
        clear hul o2 f2 y0 y1 RV2 XW
        have y0 := blk_cell X2.out 0
        have y1 := blk_cell X2.out 1
        simp at y0 y1
        by_cases hs : sq ≤ seq
        · have hs' : ¬ (seq : Int) < (sq : Int) := by omega
          by_cases hu : userL k = user
          · rw [decide_eq_true hu] at BE
            have HRR : Hid (R = some (k, vl)) := hid (by rw [HV.out, VD.out, if_pos ⟨HK.out, hu, by rw [← HSQ.out]; exact hs⟩])
            clear hu VD HV
            go_wp2_with fail
            refine BE.out.mono ?_
            rintro e w3 ⟨rfl, hw3⟩
            have hw3' := hw3.symm
            clear hw3
            subst hw3'
            clear BE
            by_cases hk1 : kd = 1
            · subst hk1
              go_wp2_with fail
              refine (clone_c RV3.out HLV.out).mono ?_
              rintro e w4 ⟨v4, rfl, o4, f4⟩
              have R4 := hid (Rd.ownB o4)
              have F4 := hid (F2.out.trans f4)
              clear o4 f4
              go_wp2
              go_ret2
              rw [HRR.out]
              exact ⟨.inl ⟨HKD.out.symm, v4, rfl, R4.out⟩, F4.out⟩
            · have hk1' : ((kd : Int) == 1) = false := beq_eq_false_iff_ne.2 (by omega)
              go_wp2
              go_ret2
              rw [HRR.out]
              exact ⟨.inr ⟨by rw [← HKD.out]; exact hk1, rfl⟩, F2.out⟩
          · rw [decide_eq_false hu] at BE
            have HNX : Hid (R = vwG (ps.drop (i + 1)) user seq) := hid (by rw [HV.out, VD.out, if_neg (fun h => hu h.2.1)])
            clear hu VD HV
            go_wp2_with fail
            refine BE.out.mono ?_
            rintro e w3 ⟨rfl, hw3⟩
            have hw3' := hw3.symm
            clear hw3
            subst hw3'
            clear BE
            go_wp2
            go_roundw
            case rel => exact ⟨i + 1, by omega, by go_num, HNX.out, F2.out⟩
            case measure => simp [intOf]; omega
        · have hs' : (seq : Int) < (sq : Int) := by omega
          have HNX : Hid (R = vwG (ps.drop (i + 1)) user seq) := hid (by rw [HV.out, VD.out, if_neg (fun h => hs (by rw [HSQ.out]; exact h.2.2))])
          clear VD HV BE
          go_wp2
          go_roundw
          case rel => exact ⟨i + 1, by omega, by go_num, HNX.out, F2.out⟩
          case measure => simp [intOf]; omega
    · have hie : i = n := by omega
      subst hie
      have HR0 : Hid (R = none) := hid (by rw [HV.out, HN.out, List.drop_length]; rfl)
      go_wp2
      go_ret2
      rw [HR0.out]
      exact ⟨rfl, HF.out⟩
end Go.Proofs.Ythmlpjogbdpgiaa
namespace Go.Proofs.Ythmlpjogbdpgiaa
open Go.ChangeShapes Go.WideShapes Go.ChangeAt Go.RowKit

set_option maxRecDepth 20000 in
set_option maxHeartbeats 3200000 in
theorem rview_c (w : World) {v : Value} {ps : Ps} (h : RdK w v ps) (hn : ps.length ≤ 1000000) {kv : Value} {user : List Nat} (ru : Rd w kv (bv user)) (bu : By user) (lu : user.length ≤ 140737488355328) (seq : Nat) :
    Calls Try.prog 16 #[v, kv, .int .u64 (seq : Int)] w fun e w' => ViewR e w' (vwG ps user seq) ∧ Fr [] w w' := by
  obtain ⟨a, c, rfl, hc, k1⟩ := h
  have H1 := hid k1
  have HU := hid ru
  have BU := hid bu
  clear k1 bu
  obtain ⟨ua, uc, hue⟩ := ru.form
  rw [bv_len] at hue
  subst hue
  clear ru
  obtain ⟨n, hnn⟩ : ∃ n, n = ps.length := ⟨_, rfl⟩
  have HN := hid hnn
  rw [← hnn] at hn hc ⊢
  clear hnn
  obtain ⟨R, hR⟩ : ∃ R, R = vwG ps user seq := ⟨_, rfl⟩
  rw [← hR]
  have HR := hid hR
  clear hR
  obtain ⟨UL, hUL⟩ : ∃ UL, UL = user.length := ⟨_, rfl⟩
  have HUL := hid hUL
  rw [← hUL] at HU lu ⊢
  clear hUL
  go_enter Try.func16, Try.ntmps16
  go_wp2_with fail
  go_loopw [8] (fun v8 wr => ∃ i : Nat, i ≤ n ∧ v8 = .int .i64 (i : Int) ∧ R = vwG (ps.drop i) user seq ∧ Fr [] w wr) (fun v8 _ => n - (intOf v8).toNat)
  case atStart => exact ⟨0, Nat.zero_le _, rfl, HR.out, Fr.refl _ _⟩
  case round =>
    obtain ⟨i, hi, rfl, hv, hf⟩ := hrel
    have HF := hid hf
    have HV := hid hv
    clear hf hv
    by_cases hlt : i < n
    · have hil : i < ps.length := by rw [← HN.out]; exact hlt
      obtain ⟨b, off, rfl, m1⟩ := H1.out (by omega)
      obtain ⟨ka, kc, va, vc, P⟩ := m1 i _ (ps_at hil)
      have z1 := cell_fr HF.out P.ck
      have z2 := cell_fr HF.out P.cv
      have RK := hid (P.rk.fr HF.out)
      have RV := hid (P.rv.fr HF.out)
      have BK := hid P.bk
      have hlk := P.lk
      have VD := hid (vwG_drop (ps := ps) (u := user) (s := seq) hil)
      dsimp only at z1 z2 RK RV BK hlk
      clear P m1
      obtain ⟨k, hkk⟩ : ∃ k, k = kA ps i := ⟨_, rfl⟩
      obtain ⟨vl, hvl⟩ : ∃ vl, vl = vA ps i := ⟨_, rfl⟩
      rw [← hkk] at z1 RK BK VD hlk
      rw [← hvl] at z2 RV VD
      clear hkk hvl
      rcases hki : isK k with _ | _
      · have ER : Hid (R = vwG (ps.drop (i + 1)) user seq) := hid (by rw [HV.out, VD.out, if_neg (by rw [hki]; simp)])
        have SN := hid (refsplit_no wr RK.out BK.out hlk hki)
        obtain ⟨kl, hkl2⟩ : ∃ kl, kl = k.length := ⟨_, rfl⟩
        rw [← hkl2] at z1 SN hlk
        clear hkl2 hki VD RK HV
        go_upto_region 5 with (go_at_call 20; refine SN.out.mono ?_; rintro e w2 ⟨rfl, h⟩; rw [h]; clear h)
        go_wp2
        go_roundw
        case rel => exact ⟨i + 1, by omega, by go_num, ER.out, HF.out⟩
        case measure => simp [intOf]; omega
      have hkl := isK_len hki
      have HKI := hid hki
      obtain ⟨q, o, c0, hp0, hc0⟩ := RK.out.place (by omega)
      simp only [Value.slice.injEq] at hp0
      obtain ⟨rfl, hx0, rfl⟩ := hp0
      clear hx0
      have SP := hid (refsplit_yes wr RK.out BK.out hc0 hki)
      have RF := hid (RK.out.front (q := k.length - 8) (by omega))
      have HUS : Hid (k.take (k.length - 8) = userL k) := hid rfl
      rw [HUS.out] at RF
      have BF : Hid (By (userL k)) := hid (BK.out.take _)
      have LFF : Hid ((userL k).length ≤ 140737488355328) := hid (by unfold userL; rw [List.length_take]; omega)
      have RB := hid (refbytes_c RF.out (HU.out.fr HF.out) BF.out BU.out LFF.out (by rw [← HUL.out]; exact lu))
      obtain ⟨sq, hsq⟩ : ∃ sq, sq = tailN k / 256 := ⟨_, rfl⟩
      obtain ⟨kd, hkd⟩ : ∃ kd, kd = tailN k % 256 := ⟨_, rfl⟩
      have HKD := hid hkd
      rw [← hsq, ← hkd] at SP
      rw [← hsq] at VD
      have HVD := hid VD.out
      clear hsq hkd VD RK hki hlk
      obtain ⟨cm, hcm⟩ : ∃ cm, cm = cmpN (userL k) user := ⟨_, rfl⟩
      have HCM := hid hcm
      rw [← hcm] at RB
      clear hcm
      obtain ⟨kl, hkl2⟩ : ∃ kl, kl = k.length := ⟨_, rfl⟩
      obtain ⟨wl, hwl2⟩ : ∃ wl, wl = vl.length := ⟨_, rfl⟩
      have HWL := hid hwl2
      rw [← hkl2] at z1 SP RB hkl hc0
      rw [← hwl2] at z2 RV
      clear hkl2 hwl2
      have hkl8 : 8 ≤ kl := hkl.1
      go_upto_region 5 with (go_at_call 20; refine SP.out.mono ?_; rintro e w2 ⟨rfl, h⟩; rw [h]; clear h)
      by_cases hu : userL k = user
      · have hc00 : cm = 0 := by rw [HCM.out]; exact (cmpN_eq _ _).2 hu
        subst hc00
        by_cases hs : sq ≤ seq
        · have hsI : (sq : Int) ≤ (seq : Int) := by omega
          have ER : Hid (R = some (k, vl)) := hid (by rw [HV.out, HVD.out, if_pos ⟨HKI.out, hu, hs⟩])
          clear hu
          by_cases h1 : kd = 1
          · subst h1
            go_wp2_with (go_at_call 21; refine RB.out.mono ?_; rintro e w3 ⟨rfl, f3⟩; have z2 := cell_fr f3 z2; have F3 := hid f3; clear f3)
            go_ret2
            refine ⟨?_, HF.out.trans F3.out⟩
            rw [ER.out]
            exact .inl ⟨HKD.out.symm, _, rfl, RV.out.fr F3.out⟩
          · have h1b : ((kd : Int) == 1) = false := by rw [beq_eq_false_iff_ne]; omega
            go_wp2_with (go_at_call 21; refine RB.out.mono ?_; rintro e w3 ⟨rfl, f3⟩; have F3 := hid f3; clear f3)
            go_ret2
            refine ⟨?_, HF.out.trans F3.out⟩
            rw [ER.out]
            exact .inr ⟨fun e => h1 (by rw [HKD.out]; exact e), rfl⟩
        · have hsI : (seq : Int) < (sq : Int) := by omega
          have ER : Hid (R = vwG (ps.drop (i + 1)) user seq) := hid (by rw [HV.out, HVD.out, if_neg (fun h => hs h.2.2)])
          clear hu
          go_wp2_with (go_at_call 21; refine RB.out.mono ?_; rintro e w3 ⟨rfl, f3⟩; have F3 := hid f3; clear f3)
          go_roundw
          case rel => exact ⟨i + 1, by omega, by go_num, ER.out, HF.out.trans F3.out⟩
          case measure => simp [intOf]; omega
      · have hc00 : (cm == 0) = false := by rw [beq_eq_false_iff_ne, HCM.out]; exact fun e => hu ((cmpN_eq _ _).1 e)
        have ER : Hid (R = vwG (ps.drop (i + 1)) user seq) := hid (by rw [HV.out, HVD.out, if_neg (fun h => hu h.2.1)])
        clear hu
        go_wp2_with (go_at_call 21; refine RB.out.mono ?_; rintro e w3 ⟨rfl, f3⟩; have F3 := hid f3; clear f3)
        go_roundw
        case rel => exact ⟨i + 1, by omega, by go_num, ER.out, HF.out.trans F3.out⟩
        case measure => simp [intOf]; omega
    · have hin : i = n := by omega
      subst hin
      go_wp2
      go_ret2
      refine ⟨?_, HF.out⟩
      rw [HV.out, List.drop_eq_nil_of_le (by rw [HN.out]; exact Nat.le_refl _)]
      rfl
end Go.Proofs.Ythmlpjogbdpgiaa
namespace Go.Proofs.Ythmlpjogbdpgiaa
open Go.ChangeShapes Go.WideShapes Go.ChangeAt Go.RowKit

def cx (a b : List Nat) : Int := if isK a && isK b then ordK a b else 0
def ce (a b : List Nat) : Int := if isK a && isK b then 0 else 23

theorem compare_any (w : World) {v1 v2 : Value} {a b : List Nat} (h1 : Rd w v1 (bv a)) (ha : By a) (hl : a.length ≤ 140737488355328) (h2 : Rd w v2 (bv b)) (hb : By b) (hl2 : b.length ≤ 140737488355328) :
    Calls Try.prog 39 #[v1, v2] w fun e w' => e = .returned (.tuple #[.int .i64 (cx a b), .int .i64 (ce a b)]) ∧ Fr [] w w' := by
  unfold cx ce
  rcases ka : isK a with _ | _
  · obtain ⟨a2, c2, hv2⟩ := h2.form
    exact compare_no1 w h1 ha hl ka hv2
  · rcases kb : isK b with _ | _
    · exact compare_no2 w h1 ha ka h2 hb hl2 kb
    · exact compare_yes w h1 ha ka h2 hb kb
theorem cx_val (a b : List Nat) : -1 ≤ cx a b ∧ cx a b ≤ 1 := by
  unfold cx
  split
  · exact ordK_val a b
  · omega
theorem cx_neg (a b : List Nat) : cx b a = -cx a b := by
  unfold cx
  rw [Bool.and_comm (isK b) (isK a)]
  split
  · exact ordK_neg a b
  · rfl
theorem ce_zero {a b : List Nat} (h : ce a b = 0) : isK a = true ∧ isK b = true := by
  unfold ce at h
  split at h
  · next g => simpa using g
  · omega
theorem cx_key {a b : List Nat} (ha : isK a = true) (hb : isK b = true) : cx a b = ordK a b := by unfold cx; rw [ha, hb]; rfl

end Go.Proofs.Ythmlpjogbdpgiaa
