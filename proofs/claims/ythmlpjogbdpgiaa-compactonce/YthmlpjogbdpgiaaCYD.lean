/-
  CompactOnce, walked.
-/
import Derived.Test.YthmlpjogbdpgiaaCYC
namespace Go.Proofs.Ythmlpjogbdpgiaa
open Go.ChangeShapes Go.WideShapes Go.ChangeAt Go.RowKit

/-- One list alone. -/
theorem RdLL.one {w : World} {G : Nat} {a : Option Addr} {c : Nat} {K : Ps} (hG : w.heap[G]? = some (.cells #[.slice a K.length c] 27 (0, 0))) (h : RdK w (.slice a K.length c) K) : RdLL w (.slice (some ⟨G, 0, none⟩) 1 1) [K] := by
  refine ⟨some ⟨G, 0, none⟩, 1, rfl, Nat.le_refl _, fun _ => ⟨G, 0, rfl, fun i p hi => ?_⟩⟩
  have h0 : i = 0 := by
    rcases Nat.eq_zero_or_pos i with h | h
    · exact h
    · rw [List.getElem?_eq_none (by simp; omega)] at hi; cases hi
  subst h0
  simp at hi
  subst hi
  exact ⟨a, c, by rw [blk_cell hG]; rfl, h⟩
set_option maxRecDepth 20000 in
set_option maxHeartbeats 12800000 in
theorem conce_c (w : World) {lv dv : Value} {LL : List Ps} {sp : Ps} (h : RdLL w lv LL) (hd : RdK w dv sp) (hn : LL.length ≤ 140737488355328) (hp : ∀ p ∈ LL, p.length ≤ 140737488355328) (hs : sp.length ≤ 140737488355328) (old : Nat) (size : Int) :
    Calls Try.prog 6 #[lv, .int .u64 (old : Int), dv, .int .i64 size] w fun e w' => e = .returned (.bool true) ∧ Fr [] w w' := by
  obtain ⟨sz, hsz0⟩ : ∃ sz : Nat, (sz : Int) = if size < 1 then 1 else size := ⟨(if size < 1 then 1 else size).toNat, by split <;> omega⟩
  have HSZ := hid hsz0
  have SZ1 : Hid (0 < sz) := hid (by split at hsz0 <;> omega)
  clear hsz0
  have HL := hid h
  have HD := hid hd
  have HP := hid hp
  obtain ⟨la, lc, rfl, hlc, _⟩ := h
  obtain ⟨da, dc, rfl, hdc, _⟩ := hd
  obtain ⟨n, hnn⟩ : ∃ n, n = LL.length := ⟨_, rfl⟩
  obtain ⟨dn, hdn⟩ : ∃ n, n = sp.length := ⟨_, rfl⟩
  have HN := hid hnn
  have HDN := hid hdn
  rw [← hnn] at hn hlc HL ⊢
  rw [← hdn] at hs hdc HD ⊢
  clear hnn hdn hp
  have KN := hid (known10_c w)
  go_enter Try.func6, Try.ntmps6
  go_upto_if 22 with (go_at_call 8; refine KN.out.mono ?_; rintro e w1 ⟨rfl, f1, hz⟩)
  have F1 := hid f1
  have HZ := hid hz
  clear f1 hz KN
  have FW := hid (few10_c w1 (HL.out.fr F1.out) (by rw [← HN.out]; exact hn) HP.out)
  by_cases h20 : dn ≤ 20
  · have h20' : ¬ (20 : Int) < (dn : Int) := by omega
    go_upto_if 30 with (go_at_call 9; refine FW.out.mono ?_; rintro e w2 ⟨hq, f2⟩; rcases hq with ⟨rfl, h8, h80⟩ | rfl)
    · have F2 := hid (F1.out.trans f2)
      have HZ2 := hid (Nat.lt_of_lt_of_le HZ.out f2.size)
      have H80 := hid h80
      have H8 := hid h8
      clear f2 h8 h80
      have MC := hid (merge_c w2 (HL.out.fr F2.out) (HD.out.fr F2.out) (by have := H8.out; omega) (by have := H80.out; omega) (by rw [← HDN.out]; omega) HZ2.out old)
      go_upto_region 6 with (go_at_call 10; refine MC.out.mono ?_; rintro e w3 ⟨hq, f3⟩; rcases hq with ⟨S, v, hr, hm, rfl, hc⟩ | ⟨hr, rfl⟩)
      · have F3 := hid (F2.out.trans f3)
        have SC := hid (sorted_c w3 (HL.out.fr F3.out) (by have := H8.out; omega) (by have := H80.out; omega))
        have MG := hid hm
        have HR := hid hr
        obtain ⟨a9, c9, e9⟩ := hc.form
        subst e9
        have CK := hid hc
        have KL0 := hid (kept_len old sp S S.length)
        have SLN : Hid (S.length ≤ 80) := hid (by rw [hm.1.length_eq]; exact H80.out)
        clear f3 hr hm hc
        go_upto_if 48 with (go_at_call 18; refine SC.out.mono ?_; rintro e w4 ⟨hq, f4⟩; rcases hq with ⟨S', v11, _, hm', rfl, hc', ik⟩ | ⟨hr', rfl⟩)
        · have e := MG.out.one hm'
          subst e
          have F34 := hid f4
          have F4 := hid (F3.out.trans f4)
          obtain ⟨a11, c11, e11⟩ := hc'.form
          subst e11
          have SK := hid (hc'.rd f4)
          have IK := hid ik
          have PW : Hid (S.Pairwise Lt) := hid hm'.2
          have SR : Hid (Rises S) := hid (rises_of ⟨fun p hp => ik p hp, hm'.2⟩)
          clear hc' ik hm'
          obtain ⟨K, hK⟩ : ∃ q, q = kept old sp S S.length := ⟨_, rfl⟩
          have HK := hid hK
          rw [← hK] at CK KL0 ⊢
          have LK := hid (CK.out.rd.fr f4)
          have SUB : Hid (K.Sublist S) := hid (by have h1 := kept_sub old sp S S.length (Nat.le_refl _); rw [List.take_length, ← hK] at h1; exact h1)
          have KLT : Hid (K.Pairwise Lt) := hid (PW.out.sublist SUB.out)
          have KRI : Hid (Rises K) := hid (SR.out.sub SUB.out)
          have KID : Hid (kept old sp K K.length = K) := hid (by rw [hK]; exact kept_idem PW.out)
          clear f4 hK
          obtain ⟨KL, hKL⟩ : ∃ q, q = K.length := ⟨_, rfl⟩
          obtain ⟨SL, hSL⟩ : ∃ q, q = S.length := ⟨_, rfl⟩
          have HKL := hid hKL
          have HSL := hid hSL
          rw [← hKL] at LK ⊢
          rw [← hSL] at SK ⊢
          clear hKL hSL
          have hKL1 : KL ≤ 80 := by rw [HKL.out]; exact Nat.le_trans KL0.out SLN.out
          have hSL1 : SL ≤ 80 := by rw [HSL.out]; exact SLN.out
          obtain ⟨aS, cS, eS, hcS, kS⟩ := SK.out
          obtain ⟨aK, cK, eK, hcK, kK⟩ := LK.out
          simp only [Value.slice.injEq] at eS eK
          obtain ⟨rfl, eS2, rfl⟩ := eS
          obtain ⟨rfl, eK2, rfl⟩ := eK
          rw [← HSL.out] at hcS
          rw [← HKL.out] at hcK
          have KS := hid kS
          have KK := hid kK
          clear eS2 eK2 kS kK
          go_wp2_with fail
          go_loopw [13, 14] (fun v13 v14 wr => ∃ i j : Nat, v13 = .int .i64 (j : Int) ∧ v14 = .int .i64 (i : Int) ∧ i ≤ KL ∧ j ≤ SL ∧ (K.drop i).Sublist (S.drop j) ∧ Fr [] w4 wr) (fun _ v14 _ => KL - (intOf v14).toNat)
          case atStart => exact ⟨0, 0, rfl, rfl, Nat.zero_le _, Nat.zero_le _, SUB.out, Fr.refl _ _⟩
          case round =>
            obtain ⟨i, j, rfl, rfl, hi, hj, hsub, hf⟩ := hrel
            have HF := hid hf
            have HS := hid hsub
            clear hf hsub
            by_cases hlt : i < KL
            · have hil : i < K.length := by rw [← HKL.out]; exact hlt
              have hlt' : (i : Int) < (KL : Int) := by omega
              obtain ⟨wo, hwo⟩ : ∃ W, W = wr := ⟨_, rfl⟩
              subst hwo
              have DK := hid (drop_kA hil)
              obtain ⟨bK, oK, rfl, _⟩ := KK.out (by omega)
              have LK1 := hid ((LK.out.fr HF.out).one hil)
              go_wp2_with fail
              go_loopw [13] (fun v13 wr => ∃ k : Nat, v13 = .int .i64 (k : Int) ∧ k ≤ SL ∧ ((kA K i, vA K i) :: K.drop (i + 1)).Sublist (S.drop k) ∧ Fr [] wo wr) (fun v13 _ => SL - (intOf v13).toNat)
              case atStart => exact ⟨j, rfl, hj, by rw [← DK.out]; exact HS.out, Fr.refl _ _⟩
              case round =>
                obtain ⟨k, rfl, hk, hsub2, hf2⟩ := hrel
                have HF2 := hid hf2
                have HS2 := hid hsub2
                clear hf2 hsub2
                by_cases hlk : k < SL
                · have hkl : k < S.length := by rw [← HSL.out]; exact hlk
                  obtain ⟨bS, oS, rfl, _⟩ := KS.out (by omega)
                  have SK1 := hid (((SK.out.fr HF.out).fr HF2.out).one hkl)
                  have KV := hid (fun m : Nat => kvsd_q (wr.drewN m) (SK1.out.fr ((Fr.refl [] wr).drewN m)) ((LK1.out.fr HF2.out).fr ((Fr.refl [] wr).drewN m)) (by simp) (by simp))
                  have DS := hid (drop_kA hkl)
                  have hlk' : (k : Int) < (SL : Int) := by omega
                  have q1 : (k : Int) + 1 - (k : Int) = 1 := by omega
                  have q2 : ((k : Int) + 1).toNat = k + 1 := by omega
                  have q3 : (k : Int) + 1 ≤ (c11 : Int) := by omega
                  have q4 : ((i : Int) + 1).toNat = i + 1 := by omega
                  have q5 : (i : Int) + 1 ≤ (c9 : Int) := by omega
                  by_cases he : (kA S k, vA S k) = (kA K i, vA K i)
                  · rw [show decide ([(kA S k, vA S k)] = [(kA K i, vA K i)]) = true from decide_eq_true (by rw [he])] at KV
                    have NX : Hid ((K.drop (i + 1)).Sublist (S.drop (k + 1))) := hid (sub_next (p := (kA K i, vA K i)) (by have h1 := HS2.out; rw [DS.out, he] at h1; exact h1))
                    clear he
                    go_upto_region 13 with fail
                    go_quiet ((go_at_call 12; exact Calls.quiet_of (KV.out _)))
                    go_wp2
                    exact ⟨⟨i + 1, k + 1, by go_num, by go_num, by omega, by omega, NX.out, HF.out.trans (HF2.out.drewN _)⟩, by simp [intOf]; omega⟩
                  · rw [show decide ([(kA S k, vA S k)] = [(kA K i, vA K i)]) = false from decide_eq_false (fun e => he (by simpa using e))] at KV
                    have NX : Hid (((kA K i, vA K i) :: K.drop (i + 1)).Sublist (S.drop (k + 1))) := hid (sub_skip (by have h1 := HS2.out; rw [DS.out] at h1; exact h1) he)
                    clear he
                    go_upto_region 13 with fail
                    go_quiet ((go_at_call 12; exact Calls.quiet_of (KV.out _)))
                    go_wp2
                    go_roundw
                    case rel => exact ⟨k + 1, by go_num, by omega, NX.out, HF2.out.drewN _⟩
                    case measure => simp [intOf]; omega
                · exfalso
                  have h1 := HS2.out
                  have e0 : S.drop k = [] := List.drop_eq_nil_of_le (by rw [← HSL.out]; omega)
                  rw [e0] at h1
                  cases h1
            · have hie : i = KL := by omega
              subst hie
              have hlt' : ¬ (i : Int) < (i : Int) := by omega
              clear HS
              obtain ⟨X, hX⟩ : ∃ X, X = wr.alloc (.cells #[.slice a9 i c9] 27) := ⟨_, rfl⟩
              have FX : Hid (Fr [] wr X) := hid (by rw [hX]; exact (Fr.refl _ _).alloc _)
              have HX : Hid (X.heap[wr.heap.size]? = some (.cells #[.slice a9 i c9] 27 (0, 0))) := hid (by rw [hX]; exact blk_new _ _)
              have FX4 := hid (F4.out.trans (HF.out.trans FX.out))
              have LLX : Hid (RdLL X (.slice (some ⟨wr.heap.size, 0, none⟩) 1 1) [K]) := hid (RdLL.one (by rw [← HKL.out]; exact HX.out) (by rw [← HKL.out]; exact LK.out.fr (HF.out.trans FX.out)))
              have MC2 := hid (merge_c X LLX.out (HD.out.fr FX4.out) (by simp) (by simp; rw [← HKL.out]; omega) (by rw [← HDN.out]; omega) (blk_lt HX.out |> Nat.lt_of_le_of_lt (Nat.zero_le _)) old)
              go_upto_region 19 with (rw [← hX]; go_at_call 10; refine MC2.out.mono ?_; rintro e w5 ⟨hq, f5⟩; rcases hq with ⟨S2, v15, hr2, hm2, rfl, hc2⟩ | ⟨hr2, rfl⟩)
              · have e2 : S2 = K := hm2.one (by rw [List.flatten_singleton]; exact ⟨List.Perm.refl _, KLT.out⟩)
                rw [e2, KID.out] at hc2
                clear e2
                obtain ⟨a15, c15, e15⟩ := hc2.form
                subst e15
                rw [← HKL.out] at hc2 ⊢
                have RM := hid hc2.rd
                have F45 := hid (HF.out.trans (FX.out.trans f5))
                clear hc2 hr2 hm2 f5 hX
                have KV := hid (kvsd_q w5 (LK.out.fr F45.out) RM.out (by rw [← HKL.out]; omega) (by rw [← HKL.out]; omega))
                rw [decide_eq_true rfl] at KV
                have RR : Hid (∀ W, Fr [] w5 W → Calls Try.prog 23 #[.slice a9 i c9] W fun e w' => e = .returned (.bool true) ∧ Fr [] W w') := hid (fun W f => (rrises_c W ((LK.out.fr F45.out).fr f) (by rw [← HKL.out]; omega)).mono (fun e w' hq => ⟨by
                  rcases hq.1 with ⟨e1, _⟩ | ⟨_, h1⟩
                  · exact e1
                  · exact absurd KRI.out h1, hq.2⟩))
                go_upto_if 107 with (first
                  | (have zz := G9; clear zz; go_at_call 23; refine (RR.out _ F56.out).mono ?_; rintro e w7 ⟨rfl, f7⟩; have F57 := hid (F56.out.trans f7); clear f7)
                  | (go_at_call 12; refine KV.out.mono ?_; rintro e w6 ⟨rfl, m6, hm6⟩; have F56 : Hid (Fr [] w5 w6) := hid (by rw [hm6]; exact (Fr.refl _ _).drewN _); have G9 := hid trivial; clear hm6))
                have F47 := hid (F45.out.trans F57.out)
                have CC := hid (ccut_c w7 (LK.out.fr F47.out) (by rw [← HKL.out]; omega) size sz HSZ.out)
                go_upto_region 22 with (go_at_call 13; refine CC.out.mono ?_; rintro e w8 ⟨hq, f8⟩; rcases hq with ⟨hr8, v16, rfl, p16⟩ | ⟨hr8, rfl⟩)
                · have F48 := hid (F47.out.trans f8)
                  have CU := hid (cutF_cuts (ps := K) SZ1.out)
                  have CL := hid (cutF_len (ps := K) SZ1.out)
                  obtain ⟨PP, hPP⟩ : ∃ q, q = cutF sz K := ⟨_, rfl⟩
                  rw [← hPP] at p16 CU CL
                  obtain ⟨N, hN⟩ : ∃ q, q = PP.length := ⟨_, rfl⟩
                  have HNN := hid hN
                  obtain ⟨a16, c16, e16, hc16, k16⟩ := p16
                  subst e16
                  rw [← hN] at hc16 ⊢
                  have K16 := hid (fun h0 : 0 < N => k16 (by rw [← hN]; exact h0))
                  have hNb : N ≤ 80 := by have h1 := CL.out.1; rw [← HKL.out, ← hN] at h1; omega
                  have LK8 := hid (LK.out.fr F48.out)
                  clear f8 hr8 hPP hN k16 CC RR KV RM LLX MC2 F57 F56 F47 HX FX
                  go_wp2_with fail
                  go_loopw [17, 18] (fun v17 v18 wr => ∃ (j : Nat) (ab : Option Addr) (cb : Nat), v18 = .int .i64 (j : Int) ∧ j ≤ N ∧ v17 = .slice ab (PP.take j).flatten.length cb ∧ ColR w8 wr w8.heap.size v17 (PP.take j).flatten ∧ Fr [] w8 wr) (fun _ v18 _ => N - (intOf v18).toNat)
                  case atStart => exact ⟨0, none, 0, rfl, Nat.zero_le _, rfl, ColR.nil _ _ _, Fr.refl _ _⟩
                  case round =>
                    obtain ⟨j, ab, cb, rfl, hj, rfl, hcr, hf⟩ := hrel
                    have HF8 := hid hf
                    have CB := hid hcr
                    clear hf hcr
                    obtain ⟨B, hB⟩ : ∃ q, q = (PP.take j).flatten := ⟨_, rfl⟩
                    rw [← hB] at CB ⊢
                    obtain ⟨nb, hnb⟩ : ∃ q, q = B.length := ⟨_, rfl⟩
                    have HB := hid hB
                    have HNB := hid hnb
                    rw [← hnb] at CB ⊢
                    clear hB hnb
                    by_cases hlj : j < N
                    · have hjl : j < PP.length := by rw [← HNN.out]; exact hlj
                      have hlj' : (j : Int) < (N : Int) := by omega
                      obtain ⟨p, hp⟩ : ∃ p, PP[j]? = some p := ⟨_, List.getElem?_eq_getElem hjl⟩
                      have hpne := CU.out.pos j p hp
                      have hp0 : 0 < p.length := List.length_pos_iff.2 hpne
                      obtain ⟨bP, oP, rfl, m16⟩ := K16.out (by omega)
                      obtain ⟨ua, uc, y0, rp⟩ := m16 j p hp
                      have SPL : Hid (K = B ++ (p ++ (PP.drop (j + 1)).flatten)) := hid (by
                        rw [← CU.out.all, HB.out]
                        conv => lhs; rw [← List.take_append_drop j PP]
                        obtain ⟨hl, he⟩ := List.getElem?_eq_some_iff.1 hp
                        rw [List.flatten_append, List.drop_eq_getElem_cons hl, he, List.flatten_cons])
                      have NXT : Hid ((PP.take (j + 1)).flatten = B ++ p) := hid (by
                        obtain ⟨hl, he⟩ := List.getElem?_eq_some_iff.1 hp
                        rw [List.take_succ_eq_append_getElem hl, he, List.flatten_append, List.flatten_singleton, HB.out])
                      have hpl : p.length ≤ 80 := by have h1 := CL.out.2 p (List.mem_of_getElem? hp); rw [← HKL.out] at h1; omega
                      have hnb80 : nb ≤ 80 := by have h1 := congrArg List.length SPL.out; rw [List.length_append, ← HKL.out, ← HNB.out] at h1; omega
                      obtain ⟨ua', uc', eU, hcU, kU⟩ := rp
                      simp only [Value.slice.injEq, true_and] at eU
                      obtain ⟨rfl, rfl⟩ := eU
                      obtain ⟨ub, uo, rfl, mU⟩ := kU hp0
                      have RP : Hid (RdK w8 (.slice (some ⟨ub, uo, none⟩) p.length uc) p) := hid ⟨_, _, rfl, hcU, kU⟩
                      have z0 := cell_fr HF8.out y0
                      obtain ⟨kx, kcx, vx, vcx, PX⟩ := mU 0 _ (ps_at hp0)
                      have z1 := cell_fr HF8.out PX.ck
                      rw [Nat.zero_mul, Nat.add_zero] at z1
                      have PXH := hid PX
                      clear m16 y0 mU kU hcU PX hp hpne
                      obtain ⟨pl, hpl2⟩ : ∃ q, q = p.length := ⟨_, rfl⟩
                      have HPL := hid hpl2
                      rw [← hpl2] at z0 RP hp0 hpl
                      have hp00 : ((pl : Int) == 0) = false := beq_eq_false_iff_ne.2 (by omega)
                      have hp01 : (0 : Int) < (pl : Int) := by omega
                      clear hpl2
                      have APP : Hid (∀ W, Fr [] wr W → ColR w8 W w8.heap.size (.slice ab nb cb) B) := hid (fun W f => CB.out.keep f (fun _ _ h => by cases h))
                      by_cases hj0 : j = 0
                      · have hj00 : ¬ (0 : Int) < (j : Int) := by omega
                        clear hj0
                        go_upto_region 27 with (at_builtin; refine wpList_app_kvsR rfl _ _ rfl (HF8.out.trans (Fr.refl [] wr)).size (HF8.out.trans (Fr.refl [] wr)) (APP.out _ (Fr.refl [] wr)) RP.out HPL.out rfl rfl (by rw [← HNB.out]; omega) (by rw [← HPL.out]; omega) ?_; intro v6 w6 c6 g6; obtain ⟨a6, cc6, e6⟩ := c6.form; obtain ⟨nl6, hnl6⟩ : ∃ q, q = (B ++ p).length := ⟨_, rfl⟩; rw [← hnl6] at e6; subst e6; have HNL6 := hid hnl6; have C6 := hid c6; clear hnl6; have G6 := hid g6; clear c6 g6)
                        have F86 : Hid (Fr [] w8 w6) := hid ((HF8.out.trans (Fr.refl [] wr)).grown G6.out (fun k hk => .inr (by
                          obtain ⟨cs, o, _⟩ := APP.out _ (Fr.refl [] wr)
                          rw [HNB.out] at hk
                          exact (o.lt k (by first | exact hk | (rw [HNB.out]; exact hk))).1)))
                        go_wp2
                        go_roundw
                        case rel => exact ⟨j + 1, a6, cc6, by go_num, by omega, by rw [NXT.out, HNL6.out], by rw [NXT.out]; exact C6.out, F86.out⟩
                        case measure => simp [intOf]; omega
                      · have hj00 : (0 : Int) < (j : Int) := by omega
                        have hnb0 : 0 < nb := by
                          rw [HNB.out, HB.out]
                          have h1 : 0 < PP.length := by omega
                          obtain ⟨p0, hp0'⟩ : ∃ p, PP[0]? = some p := ⟨_, List.getElem?_eq_getElem h1⟩
                          have h2 := List.length_pos_iff.2 (CU.out.pos 0 p0 hp0')
                          have h3 : p0 ∈ PP.take j := List.mem_of_getElem? (i := 0) (by rw [List.getElem?_take_of_lt (by omega)]; exact hp0')
                          have h4 := (List.sublist_flatten_of_mem h3).length_le
                          omega
                        have TWO := CU.out.two j (by omega) hjl
                        rw [← HB.out, ← HNB.out] at TWO
                        have hkB : kA B (nb - 1) = kA K (nb - 1) := by
                          unfold kA; rw [SPL.out, List.getElem?_append_left (by rw [← HNB.out]; omega)]
                        have hkP : kA p 0 = kA K nb := by
                          unfold kA; rw [SPL.out, List.getElem?_append_right (by rw [← HNB.out]; exact Nat.le_refl _), ← HNB.out, Nat.sub_self, List.getElem?_append_left (by rw [← HPL.out]; exact hp0)]
                        rw [← hkB, ← hkP] at TWO
                        have hiB : isK (kA B (nb - 1)) = true := by
                          rw [hkB]
                          exact rises_isK KRI.out (by rw [← HKL.out]; have h1 := congrArg List.length SPL.out; rw [List.length_append, ← HKL.out, ← HNB.out] at h1; omega)
                        have hiP : isK (kA p 0) = true := by
                          rw [hkP]
                          exact rises_isK KRI.out (by rw [← HKL.out]; have h1 := congrArg List.length SPL.out; rw [List.length_append, List.length_append, ← HKL.out, ← HNB.out, ← HPL.out] at h1; omega)
                        have hlB := isK_len hiB
                        have hlP := isK_len hiP
                        obtain ⟨ab', cb', eb, hcb, kb⟩ := CB.out.rd HF8.out
                        simp only [Value.slice.injEq] at eb
                        obtain ⟨rfl, eb2, rfl⟩ := eb
                        obtain ⟨gb, ob, rfl, mb⟩ := kb (by rw [← HNB.out]; exact hnb0)
                        obtain ⟨kz, kcz, vz, vcz, PZ⟩ := mb (nb - 1) _ (ps_at (by rw [← HNB.out]; omega))
                        have z2 := PZ.ck
                        obtain ⟨qx, ox, cx, hx0, hx1⟩ := PXH.out.rk.place (by dsimp only; omega)
                        obtain ⟨qz, oz, cz, hz0, hz1⟩ := PZ.rk.place (by dsimp only; omega)
                        simp only [Value.slice.injEq] at hx0 hz0
                        obtain ⟨rfl, hx2, rfl⟩ := hx0
                        obtain ⟨rfl, hz2, rfl⟩ := hz0
                        have BE := hid (fun (W : World) (f : Fr [] wr W) => bytes_c (w := W) ((PZ.rk.fr f).front (q := (kA B (nb - 1)).length - 8) (by dsimp only; omega)) (((PXH.out.rk.fr HF8.out).fr f).front (q := (kA p 0).length - 8) (by dsimp only; omega)) (PZ.bk.take _) (PXH.out.bk.take _))
                        have NE : Hid (decide ((kA B (nb - 1)).take ((kA B (nb - 1)).length - 8) = (kA p 0).take ((kA p 0).length - 8)) = false) := hid (decide_eq_false TWO)
                        dsimp only at BE z1 z2
                        rw [NE.out] at BE
                        obtain ⟨lz, hlz⟩ : ∃ q, q = (kA B (nb - 1)).length := ⟨_, rfl⟩
                        obtain ⟨lx, hlx⟩ : ∃ q, q = (kA p 0).length := ⟨_, rfl⟩
                        rw [← hlz] at BE z2 hlB hz1
                        rw [← hlx] at BE z1 hlP hx1
                        obtain ⟨n1, hn1⟩ : ∃ q, q = nb - 1 := ⟨_, rfl⟩
                        have hnn1 : (nb : Int) - 1 = (n1 : Int) := by omega
                        have hn1l : (n1 : Int) < (nb : Int) := by omega
                        have w1 : ((lz : Int) - 8).toNat = lz - 8 := by omega
                        have w2' : ((lx : Int) - 8).toNat = lx - 8 := by omega
                        have w3' : (lz : Int) - 8 ≤ (kcz : Int) := by omega
                        have w4' : (lx : Int) - 8 ≤ (kcx : Int) := by omega
                        have w5' : ¬ (lz : Int) - 8 < 0 := by omega
                        have w6' : ¬ (lx : Int) - 8 < 0 := by omega
                        rw [← hn1] at z2
                        clear hj0 hlz hlx hn1 TWO hkB hkP hiB hiP PZ mb kb hx2 hz2 NE eb2 hcb
                        go_upto_region 31 with fail
                        go_quiet (fail)
                        obtain ⟨W9, hW9⟩ : ∃ W, W = wr.drewN nq := ⟨_, rfl⟩
                        rw [← hW9]
                        have F9 : Hid (Fr [] wr W9) := hid (by rw [hW9]; exact (Fr.refl _ _).drewN _)
                        have z09 := cell_fr F9.out z0
                        clear hW9 z0 z1 z2
                        go_upto_region 32 with fail
                        go_quiet ((go_at_call 17; exact Calls.quiet_of_same (BE.out _ (F9.out.drewN _))))
                        obtain ⟨W10, hW10⟩ : ∃ W, W = W9.drewN nq := ⟨_, rfl⟩
                        rw [← hW10]
                        have F10 : Hid (Fr [] wr W10) := hid (by rw [hW10]; exact F9.out.drewN _)
                        have z010 := cell_fr ((Fr.refl [] W9).drewN nq) z09
                        rw [← hW10] at z010
                        clear hW10 z09
                        go_upto_region 27 with (at_builtin; refine wpList_app_kvsR rfl _ _ rfl (HF8.out.trans F10.out).size (HF8.out.trans F10.out) (APP.out _ F10.out) RP.out HPL.out rfl rfl (by rw [← HNB.out]; omega) (by rw [← HPL.out]; omega) ?_; intro v6 w6 c6 g6; obtain ⟨a6, cc6, e6⟩ := c6.form; obtain ⟨nl6, hnl6⟩ : ∃ q, q = (B ++ p).length := ⟨_, rfl⟩; rw [← hnl6] at e6; subst e6; have HNL6 := hid hnl6; have C6 := hid c6; clear hnl6; have G6 := hid g6; clear c6 g6)
                        have F86 : Hid (Fr [] w8 w6) := hid ((HF8.out.trans F10.out).grown G6.out (fun k hk => .inr (by
                          obtain ⟨cs, o, _⟩ := APP.out _ F10.out
                          rw [HNB.out] at hk
                          exact (o.lt k (by first | exact hk | (rw [HNB.out]; exact hk))).1)))
                        go_wp2
                        go_roundw
                        case rel => exact ⟨j + 1, a6, cc6, by go_num, by omega, by rw [NXT.out, HNL6.out], by rw [NXT.out]; exact C6.out, F86.out⟩
                        case measure => simp [intOf]; omega
                    · have hje : j = N := by omega
                      have BEQ : Hid (B = K) := hid (by rw [HB.out, List.take_of_length_le (by rw [← HNN.out]; omega)]; exact CU.out.all)
                      have RB9 := hid (CB.out.rd HF8.out)
                      have KV9 := hid (kvsd_q wr RB9.out (show RdK wr (.slice a9 i c9) B by rw [BEQ.out]; exact LK8.out.fr HF8.out) (by rw [BEQ.out, ← HKL.out]; omega) (by rw [BEQ.out, ← HKL.out]; omega))
                      rw [decide_eq_true rfl] at KV9
                      have FE := hid (F4.out.trans (F48.out.trans HF8.out))
                      subst hje
                      have hlj' : ¬ (j : Int) < (j : Int) := by omega
                      go_wp2_with (go_at_call 12; refine KV9.out.mono ?_; rintro e w9 ⟨rfl, m9, hm9⟩; have F9 : Hid (Fr [] wr w9) := hid (by rw [hm9]; exact (Fr.refl _ _).drewN _); clear hm9)
                      go_ret
                      exact ⟨rfl, FE.out.trans F9.out⟩
                · exact absurd KRI.out hr8
              · exfalso
                rcases hr2 with ⟨p, hp, hn⟩ | hn
                · simp at hp; subst hp; exact hn KRI.out
                · exact hn K (by rw [List.flatten_singleton]; exact ⟨List.Perm.refl _, KLT.out⟩)
        · exact absurd HR.out (by
            rintro hra
            rcases hr' with ⟨p, hp, hn⟩ | hn
            · exact hn (hra p hp)
            · exact hn _ MG.out)
      · have F3 := hid (F2.out.trans f3)
        have SC := hid (sorted_c w3 (HL.out.fr F3.out) (by have := H8.out; omega) (by have := H80.out; omega))
        have HR := hid hr
        clear f3 hr
        go_upto_if 48 with (go_at_call 18; refine SC.out.mono ?_; rintro e w4 ⟨hq, f4⟩; rcases hq with ⟨S', v11, hr', hm', rfl, hc', ik⟩ | ⟨hr', rfl⟩)
        · exact absurd HR.out (by
            rintro (⟨p, hp, hn⟩ | hn)
            · exact hn (hr' p hp)
            · exact hn _ hm')
        · have F4 := hid (F3.out.trans f4)
          clear f4 hr'
          go_wp2
          go_ret
          exact ⟨rfl, F4.out⟩
    · have F2 := hid (F1.out.trans f2)
      clear f2
      go_wp2
      go_ret
      exact ⟨rfl, F2.out⟩
  · have FWB : Hid (Calls Try.prog 9 #[.slice la n lc] w1 fun e w' => (∃ b, e = .returned (.bool b)) ∧ Fr [] w1 w') := hid (FW.out.mono (fun e w' hq => ⟨by rcases hq.1 with ⟨e1, _⟩ | e1 <;> exact ⟨_, e1⟩, hq.2⟩))
    have h20' : (20 : Int) < (dn : Int) := by omega
    clear FW
    go_upto_if 30 with (go_at_call 9; refine FWB.out.mono ?_; rintro e w2 ⟨⟨b, rfl⟩, f2⟩; have F2 := hid (F1.out.trans f2); clear f2; rcases b with _ | _)
    · go_wp2
      go_ret
      exact ⟨rfl, F2.out⟩
    · go_wp2
      go_ret
      exact ⟨rfl, F2.out⟩
end Go.Proofs.Ythmlpjogbdpgiaa
