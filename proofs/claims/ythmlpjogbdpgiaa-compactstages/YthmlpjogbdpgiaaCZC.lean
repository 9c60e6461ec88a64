/-
  CompactStages, walked.
-/
import Derived.Test.YthmlpjogbdpgiaaCZB
namespace Go.Proofs.Ythmlpjogbdpgiaa
open Go.ChangeShapes Go.WideShapes Go.ChangeAt Go.RowKit

/-- append(nil, l...) of spans. -/
theorem wpList_app_spsN {w : World} {ops : Array Oper} {rest : List Oper} {o : Oper} {a : Act} {Q : Exit → Act → World → Prop} (hgd : o.guard = none) (s x : Operand)
    (ho : o.op = .call { callee := .builtin .append, args := #[s, x], argTypes := #[24, 24] }) {da : Option Addr} {dn dc : Nat} {qs : Ps} (h2 : RdK w (.slice da dn dc) qs) (hm : dn = qs.length) (hn : da = none → dc = 0) (hs : a.eval s = .slice none 0 0) (hx : a.eval x = .slice da dn dc) (hl2 : qs.length ≤ 1000000)
    (h : ∀ a' c' w', ColS w w' w.heap.size (.slice a' dn c') qs → Fr [] w w' → wpList Try.prog ops Q rest (a.put o.dst (.slice a' dn c')) w') :
    wpList Try.prog ops Q (o :: rest) a w := by
  rcases Nat.eq_zero_or_pos dn with h0 | h0
  · subst h0
    have : qs = [] := List.eq_nil_of_length_eq_zero hm.symm
    subst this
    exact wpList_app_sps0 hgd s x ho hs hx hn fun w' f => h none 0 w' (ColS.nil _ _ _) f
  · obtain ⟨a', c', e, hc, k1⟩ := id h2
    simp only [Value.slice.injEq] at e
    obtain ⟨rfl, _, rfl⟩ := e
    obtain ⟨b, off, rfl, m1⟩ := k1 (by omega)
    refine wpList_app_spsR hgd s x ho (Nat.le_refl _) (Fr.refl [] w) (ColS.nil w w w.heap.size) h2 hm hs hx (by simp) hl2 fun v' w' c' g' => ?_
    rw [List.nil_append] at c'
    obtain ⟨cs, oc, rc⟩ := id c'
    obtain ⟨a', c9, e, _⟩ := ownsRow_slice oc
    rw [← hm] at e
    subst e
    exact h a' c9 w' c' ((Fr.refl [] w).grown g' (fun k hk => by cases hk))
theorem ColS.form {w0 W : World} {B : Nat} {v : Value} {ps : Ps} (h : ColS w0 W B v ps) : ∃ a c, v = .slice a ps.length c := by
  obtain ⟨cs, o, _⟩ := h
  obtain ⟨a, c, e, _⟩ := ownsRow_slice o
  exact ⟨a, c, e⟩
theorem flat_parts (LL : List Ps) (a : Nat) : (LL.take a).flatten ++ (LL.drop a).flatten = LL.flatten := by
  rw [← List.flatten_append, List.take_append_drop]
theorem flat_next {LL : List Ps} {ct i : Nat} {p : Ps} (hc : ct ≤ i) (hp : LL[i]? = some p) : ((LL.drop ct).take (i + 1 - ct)).flatten = ((LL.drop ct).take (i - ct)).flatten ++ p := by
  have h : (LL.drop ct)[i - ct]? = some p := by rw [List.getElem?_drop, show ct + (i - ct) = i by omega]; exact hp
  rw [show i + 1 - ct = i - ct + 1 by omega, take_oneL h, List.flatten_append, List.flatten_singleton]
theorem stages_ex {old : Nat} {sp A D S S1 : Ps} (hS : MgS (A ++ D) S) (h1 : MgS A S1) : ∃ S2, MgS (kept old (sp ++ spU D) S1 S1.length ++ D) S2 := by
  rw [kept_filter h1.2]
  obtain ⟨l1, g1, g2⟩ := List.exists_perm_sublist (List.filter_sublist (p := keepB old (sp ++ spU D) S1) (l := S1)) h1.1
  obtain ⟨l2, g3, g4⟩ := List.exists_perm_sublist (List.Sublist.append g2 (List.Sublist.refl D)) hS.1.symm
  exact ⟨l2, g3.trans (List.Perm.append_right D g1), hS.2.sublist g4⟩
theorem spU_len (D : Ps) : (spU D).length = D.length := by unfold spU; simp
theorem spU_app (C D : Ps) : spU (C ++ D) = spU C ++ spU D := by unfold spU; simp
set_option maxRecDepth 20000 in
set_option maxHeartbeats 12800000 in
theorem cstages_c (w : World) {lv dv : Value} {LL : List Ps} {sp : Ps} (h : RdLL w lv LL) (hd : RdK w dv sp) (hn : LL.length ≤ 140737488355328) (hp : ∀ p ∈ LL, p.length ≤ 140737488355328) (hs : sp.length ≤ 140737488355328) (h0l : ∀ n c, lv = .slice none n c → c = 0) (h0d : ∀ n c, dv = .slice none n c → c = 0) (old : Nat) (cut : Int) :
    Calls Try.prog 7 #[lv, .int .u64 (old : Int), dv, .int .i64 cut] w fun e w' => e = .returned (.bool true) ∧ Fr [] w w' := by
  have HL := hid h
  have HD := hid hd
  have HP := hid hp
  obtain ⟨la, lc, rfl, hlc, _⟩ := h
  obtain ⟨da, dc, rfl, hdc, _⟩ := hd
  have HLN : Hid (la = none → lc = 0) := hid (fun e => h0l _ lc (by rw [e]))
  have HDN0 : Hid (da = none → dc = 0) := hid (fun e => h0d _ dc (by rw [e]))
  clear h0l h0d
  obtain ⟨n, hnn⟩ : ∃ n, n = LL.length := ⟨_, rfl⟩
  obtain ⟨dn, hdn⟩ : ∃ n, n = sp.length := ⟨_, rfl⟩
  have HN := hid hnn
  have HDN := hid hdn
  rw [← hnn] at hn hlc HL ⊢
  rw [← hdn] at hs hdc HD ⊢
  clear hnn hdn hp
  have KN := hid (known10_c w)
  go_enter Try.func7, Try.ntmps7
  go_upto_if 20 with (go_at_call 8; refine KN.out.mono ?_; rintro e w1 ⟨rfl, f1, hz⟩)
  have F1 := hid f1
  have HZ := hid hz
  clear f1 hz KN
  have FW := hid (few10_c w1 (HL.out.fr F1.out) (by rw [← HN.out]; exact hn) HP.out)
  by_cases hgood : dn ≤ 20 ∧ 0 ≤ cut ∧ cut ≤ (n : Int)
  · obtain ⟨h20, hc0, hc1⟩ := hgood
    obtain ⟨ct, rfl⟩ : ∃ c : Nat, cut = (c : Int) := ⟨cut.toNat, by omega⟩
    have hct : ct ≤ n := by omega
    have h20' : ¬ (20 : Int) < (dn : Int) := by omega
    have hc0' : ¬ (ct : Int) < 0 := by omega
    have hc1' : ¬ (n : Int) < (ct : Int) := by omega
    clear hc0 hc1
    go_upto_if 38 with (go_at_call 9; refine FW.out.mono ?_; rintro e w2 ⟨hq, f2⟩; rcases hq with ⟨rfl, h8, h80⟩ | rfl)
    · have F2 := hid (F1.out.trans f2)
      have HZ2 := hid (Nat.lt_of_lt_of_le HZ.out f2.size)
      have H80 := hid h80
      have H8 := hid h8
      clear f2 h8 h80
      have MC := hid (merge_c w2 (HL.out.fr F2.out) (HD.out.fr F2.out) (by have := H8.out; omega) (by have := H80.out; omega) (by rw [← HDN.out]; omega) HZ2.out old)
      go_upto_region 6 with (go_at_call 10; refine MC.out.mono ?_; rintro e w3 ⟨hq, f3⟩; rcases hq with ⟨S, v, hr, hm, rfl, hc⟩ | ⟨hr, rfl⟩)
      · have F3 := hid (F2.out.trans f3)
        have SZ23 := hid f3.size
        have SC := hid (sorted_c w3 (HL.out.fr F3.out) (by have := H8.out; omega) (by have := H80.out; omega))
        have MG := hid hm
        have HR := hid hr
        obtain ⟨a9, c9, e9⟩ := hc.form
        subst e9
        have CK := hid hc
        have KL0 := hid (kept_len old sp S S.length)
        have SLN : Hid (S.length ≤ 80) := hid (by rw [hm.1.length_eq]; exact H80.out)
        clear f3 hr hm hc
        go_upto_if 56 with (go_at_call 18; refine SC.out.mono ?_; rintro e w4 ⟨hq, f4⟩; rcases hq with ⟨S', v11, _, hm', rfl, hc', ik⟩ | ⟨hr', rfl⟩)
        · have F34 := hid f4
          have F4 := hid (F3.out.trans f4)
          clear f4 hc' ik hm'
          obtain ⟨KL, hKL⟩ : ∃ q, q = (kept old sp S S.length).length := ⟨_, rfl⟩
          have HKL := hid hKL
          rw [← hKL]
          clear hKL
          have hKL1 : KL ≤ 80 := by rw [HKL.out]; exact Nat.le_trans KL0.out SLN.out
          have HD4 := hid (HD.out.fr F4.out)
          go_wp2_with (at_builtin; refine wpList_app_spsN rfl _ _ rfl HD4.out HDN.out HDN0.out rfl rfl (by rw [← HDN.out]; omega) ?_; intro a13 c13 w5 cs5 f5; have CS5 := hid cs5; have F45 := hid f5; clear cs5 f5)
          go_loopw [13, 14] (fun v13 v14 wr => ∃ (i m : Nat) (a13 : Option Addr) (c13 : Nat), v14 = .int .i64 (i : Int) ∧ ct ≤ i ∧ i ≤ n ∧ v13 = .slice a13 m c13 ∧ m = (sp ++ spU ((LL.drop ct).take (i - ct)).flatten).length ∧ ColS w4 wr w4.heap.size v13 (sp ++ spU ((LL.drop ct).take (i - ct)).flatten) ∧ Fr [] w4 wr) (fun _ v14 _ => n - (intOf v14).toNat)
          case atStart => exact ⟨ct, dn, a13, c13, rfl, Nat.le_refl _, hct, rfl, by simp [spU]; exact HDN.out, by simpa [spU] using CS5.out, F45.out⟩
          case round =>
            obtain ⟨i, m, a13, c13, rfl, hi0, hi, rfl, hm, hcs, hf⟩ := hrel
            have HF := hid hf
            have CS := hid hcs
            have HM := hid hm
            have FLB := hid (flat_parts LL ct)
            have FLI := hid (flat_parts (LL.drop ct) (i - ct))
            clear hf hcs hm CS5 F45
            by_cases hlt : i < n
            · have hlt' : (i : Int) < (n : Int) := by omega
              obtain ⟨p, hp⟩ : ∃ p, LL[i]? = some p := ⟨_, List.getElem?_eq_getElem (by rw [← HN.out]; exact hlt)⟩
              have NXT := hid (flat_next hi0 hp)
              obtain ⟨C, hC⟩ : ∃ C, C = ((LL.drop ct).take (i - ct)).flatten := ⟨_, rfl⟩
              rw [← hC] at NXT CS HM FLI
              clear hC
              obtain ⟨la', lc', eL, hcL, kL⟩ := HL.out.fr F4.out
              simp only [Value.slice.injEq] at eL
              obtain ⟨rfl, eL2, rfl⟩ := eL
              obtain ⟨b, off, rfl, mL⟩ := kL (by rw [← HN.out]; omega)
              obtain ⟨ua, uc, y0, rp⟩ := mL i p hp
              have hri := HR.out p (List.mem_of_getElem? hp)
              have RI := hid hri
              have hpl : p.length ≤ 80 := by
                have h1 := congrArg List.length FLB.out
                have h3 := (List.sublist_flatten_of_mem (List.mem_of_getElem? hp)).length_le
                have := H80.out
                omega
              have hCl : C.length + p.length ≤ 80 := by
                have h1 := congrArg List.length FLB.out
                have h2 := congrArg List.length (flat_parts (LL.drop ct) (i + 1 - ct))
                rw [NXT.out] at h2
                rw [List.length_append] at h1 h2
                rw [List.length_append] at h2
                have := H80.out
                omega
              obtain ⟨pl, hpl2⟩ : ∃ q, q = p.length := ⟨_, rfl⟩
              have HPL := hid hpl2
              have RPH := hid rp
              rw [← hpl2] at y0 hpl hCl RPH
              obtain ⟨wo, hwo⟩ : ∃ W, W = wr := ⟨_, rfl⟩
              subst hwo
              clear kL mL eL2 hcL hp hri rp hpl2 FLB FLI
              go_wp2_with fail
              go_loopw [13, 15] (fun v13 v15 wr => ∃ (k m : Nat) (a13 : Option Addr) (c13 : Nat), v15 = .int .i64 (k : Int) ∧ k ≤ pl ∧ v13 = .slice a13 m c13 ∧ m = (sp ++ spU (C ++ p.take k)).length ∧ ColS w4 wr w4.heap.size v13 (sp ++ spU (C ++ p.take k)) ∧ Fr [] w4 wr) (fun _ v15 _ => pl - (intOf v15).toNat)
              case atStart => exact ⟨0, m, a13, c13, rfl, Nat.zero_le _, rfl, by rw [List.take_zero, List.append_nil]; exact HM.out, by rw [List.take_zero, List.append_nil]; exact CS.out, HF.out⟩
              case round =>
                obtain ⟨k, m2, a14, c14, rfl, hk, rfl, hm2, hcs2, hf2⟩ := hrel
                have HF2 := hid hf2
                have CS2 := hid hcs2
                have HM2 := hid hm2
                have z0 := cell_fr HF2.out y0
                clear hf2 hcs2 hm2
                by_cases hlk : k < pl
                · have hlk' : (k : Int) < (pl : Int) := by omega
                  have hkl : k < p.length := by rw [← HPL.out]; exact hlk
                  obtain ⟨ua', uc', eU, hcU, kU⟩ := RPH.out
                  simp only [Value.slice.injEq] at eU
                  obtain ⟨rfl, eU2, rfl⟩ := eU
                  obtain ⟨ub, uo, rfl, mU⟩ := kU (by omega)
                  obtain ⟨ka, kc, va, vc, P⟩ := mU k _ (ps_at hkl)
                  have z1 := cell_fr HF2.out P.ck
                  have hki : isK (kA p k) = true := rises_isK RI.out hkl
                  have hkk := isK_len hki
                  obtain ⟨q, o, ck, hp0, hc0⟩ := P.rk.place (by dsimp only; omega)
                  simp only [Value.slice.injEq] at hp0
                  obtain ⟨rfl, hx0, rfl⟩ := hp0
                  have RF := hid (P.rk.front (q := (kA p k).length - 8) (by dsimp only; omega))
                  have HUS : Hid ((kA p k).take ((kA p k).length - 8) = userL (kA p k)) := hid rfl
                  dsimp only at RF z1 hc0
                  rw [HUS.out] at RF
                  have BF : Hid (By (userL (kA p k))) := hid (P.bk.take _)
                  have UL : Hid ((userL (kA p k)).length = (kA p k).length - 8) := hid (by unfold userL; rw [List.length_take]; omega)
                  have SN : Hid (sp ++ spU (C ++ p.take (k + 1)) = (sp ++ spU (C ++ p.take k)) ++ [(userL (kA p k), userL (kA p k))]) := hid (by
                    rw [take_kA hkl, ← List.append_assoc, spU_app (C ++ p.take k), List.append_assoc]; rfl)
                  have hm2b : m2 ≤ 100 := by
                    rw [HM2.out, List.length_append, spU_len, List.length_append, List.length_take, ← HDN.out]; omega
                  obtain ⟨kl, hkl2⟩ : ∃ q, q = (kA p k).length := ⟨_, rfl⟩
                  rw [← hkl2] at z1 hkk hc0 RF UL
                  have w1' : ((kl : Int) - 8).toNat = kl - 8 := by omega
                  have w3' : (kl : Int) - 8 ≤ (kc : Int) := by omega
                  have w5' : ¬ (kl : Int) - 8 < 0 := by omega
                  clear kU mU P hki hx0 eU2 hcU hkl2
                  go_upto_region 16 with fail
                  go_quiet (fail)
                  obtain ⟨W9, hW9⟩ : ∃ W, W = wr.drewN nq := ⟨_, rfl⟩
                  rw [← hW9]
                  have F9 : Hid (Fr [] wr W9) := hid (by rw [hW9]; exact (Fr.refl _ _).drewN _)
                  clear hW9 z0 z1
                  obtain ⟨XA, hXA⟩ : ∃ X, X = W9.alloc (.cells #[.slice (some ⟨q, o, none⟩) (kl - 8) kc, .slice (some ⟨q, o, none⟩) (kl - 8) kc] 58) := ⟨_, rfl⟩
                  have FXA : Hid (Fr [] wr XA) := hid (by rw [hXA]; exact F9.out.alloc _)
                  have HXA : Hid (XA.heap[W9.heap.size]? = some (.cells #[.slice (some ⟨q, o, none⟩) (kl - 8) kc, .slice (some ⟨q, o, none⟩) (kl - 8) kc] 58 (0, 0))) := hid (by rw [hXA]; exact blk_new _ _)
                  obtain ⟨cs9, o9, h9⟩ := CS2.out.keep FXA.out (fun _ _ h => by cases h)
                  have O9 := hid o9
                  have H9 := hid h9
                  have SZ9 := hid (HF2.out.trans FXA.out).size
                  clear o9 h9
                  rw [← HM2.out] at O9
                  go_upto_region 15 with (at_builtin; rw [← hXA]; refine wpList_appSp rfl _ _ rfl w4.heap.size SZ9.out (.slice a14 m2 c14) m2 cs9 rfl O9.out W9.heap.size rfl HXA.out (by intro u hu; simp at hu; subst hu; rfl) (by omega) ?_; intro v8 w8 o8 g8; have O8 := hid o8; have G8 := hid g8; clear o8 g8)
                  have C8 : Hid (ColS w4 w8 w4.heap.size v8 (sp ++ spU (C ++ p.take (k + 1)))) := hid (by
                    rw [SN.out]
                    exact ColS.app (p := (userL (kA p k), userL (kA p k))) (by have := O9.out.1; rw [HM2.out] at this; exact this) H9.out (by rw [UL.out]; exact RF.out) (by rw [UL.out]; exact RF.out) BF.out BF.out (by dsimp only; rw [UL.out]; omega) (by dsimp only; rw [UL.out]; omega) (by dsimp only; rw [UL.out, ← HM2.out]; exact O8.out))
                  have F8 : Hid (Fr [] w4 w8) := hid ((HF2.out.trans FXA.out).grown G8.out (fun y hy => .inr (O9.out.lt y hy).1))
                  obtain ⟨a8, c8, e8, _⟩ := ownsRow_slice O8.out
                  subst e8
                  have HM8 : Hid (m2 + 1 = (sp ++ spU (C ++ p.take (k + 1))).length) := hid (by rw [SN.out, List.length_append, ← HM2.out]; rfl)
                  clear hXA
                  go_wp2
                  go_roundw
                  case rel => exact ⟨k + 1, m2 + 1, a8, c8, by go_num, by omega, rfl, HM8.out, C8.out, F8.out⟩
                  case measure => simp [intOf]; omega
                · have hke : k = pl := by omega
                  have hlk' : ¬ (k : Int) < (pl : Int) := by omega
                  have PT : Hid (p.take k = p) := hid (List.take_of_length_le (by rw [← HPL.out]; omega))
                  rw [PT.out] at CS2 HM2
                  clear y0 hke
                  go_wp2
                  go_roundw
                  case rel => exact ⟨i + 1, m2, a14, c14, by go_num, by omega, by omega, rfl, by rw [NXT.out]; exact HM2.out, by rw [NXT.out]; exact CS2.out, HF2.out⟩
                  case measure => simp [intOf]; omega
            · have hie : i = n := by omega
              have hlt' : ¬ (i : Int) < (n : Int) := by omega
              have HDD : Hid (((LL.drop ct).take (i - ct)).flatten = (LL.drop ct).flatten) := hid (by rw [List.take_of_length_le (by rw [List.length_drop, ← HN.out]; omega)])
              rw [HDD.out] at CS HM
              clear FLI HDD hie hi hi0
              have hmb : m ≤ 100 := by
                have h1 := congrArg List.length FLB.out
                rw [List.length_append] at h1
                have h2 := HM.out
                rw [List.length_append, spU_len, ← HDN.out] at h2
                have := H80.out
                omega
              have FRH := hid (HL.out.fr (F4.out.trans HF.out))
              have FRT := hid (FRH.out.front HN.out hct)
              have CSR := hid (CS.out.rd HF.out)
              have HZX : Hid (0 < w.heap.size + 1) := hid (Nat.succ_pos _)
              have HZ4 : Hid (0 < wr.heap.size) := hid (by
                have h1 := (F34.out.trans HF.out).size
                have h2 := SZ23.out
                have h3 := HZ2.out
                omega)
              have MC1 := hid (merge_c wr FRT.out CSR.out (by rw [List.length_take]; have := H8.out; omega) (by have h1 := congrArg List.length FLB.out; rw [List.length_append] at h1; have := H80.out; omega) (by rw [← HM.out]; omega) HZ4.out old)
              have ct1 : (ct : Int) ≤ (lc : Int) := by omega
              go_upto_region 19 with (go_at_call 10; refine MC1.out.mono ?_; rintro e w6 ⟨hq, f6⟩; rcases hq with ⟨S1, v17, hr6, hm6, rfl, hc6⟩ | ⟨hr6, rfl⟩)
              · have F17 := hid f6
                have MG1 := hid hm6
                obtain ⟨K1, hK1⟩ : ∃ K, K = kept old (sp ++ spU (LL.drop ct).flatten) S1 S1.length := ⟨_, rfl⟩
                have HK1 := hid hK1
                rw [← hK1] at hc6
                obtain ⟨a17, c17, e17⟩ := hc6.form
                subst e17
                have RK1 := hid hc6.rd
                have S1L : S1.length ≤ 80 := by
                  have h1 := hm6.1.length_eq
                  have h2 := congrArg List.length FLB.out
                  rw [List.length_append] at h2
                  have := H80.out
                  omega
                have K1L : K1.length ≤ 80 := by rw [hK1]; exact Nat.le_trans (kept_len _ _ _ _) S1L
                have K1R : Hid (Rises K1) := hid (by
                  rw [hK1]
                  refine kept_rises (rises_of ⟨fun x hx => ?_, hm6.2⟩)
                  obtain ⟨p, hp, hxp⟩ := List.mem_flatten.1 (hm6.1.mem_iff.1 hx)
                  obtain ⟨j, hj⟩ := List.getElem?_of_mem hxp
                  have h1 := rises_isK (hr6 p hp) (List.getElem?_eq_some_iff.1 hj).1
                  rwa [(kA_at hj).1] at h1)
                clear hr6 hm6 hc6 f6 hK1
                obtain ⟨k1, hk1⟩ : ∃ q, q = K1.length := ⟨_, rfl⟩
                have HK1L := hid hk1
                rw [← hk1] at RK1 K1L ⊢
                clear hk1
                obtain ⟨XA, hXA⟩ : ∃ X, X = w6.alloc (.cells #[.slice a17 k1 c17] 27) := ⟨_, rfl⟩
                have FXA : Hid (Fr [] w6 XA) := hid (by rw [hXA]; exact (Fr.refl _ _).alloc _)
                have OXA : Hid (XA.ownsRow w6.heap.size 27 1 (.slice (some ⟨w6.heap.size, 0, none⟩) 1 1) 1 [.slice a17 k1 c17]) := hid (by rw [hXA]; exact World.ownsRow_lit w6 #[.slice a17 k1 c17] 1 (Nat.le_refl _) (by unfold maxLen; omega) rfl)
                by_cases hcn : ct < n
                · obtain ⟨la', lc', eL, hcL, kL⟩ := id FRH.out
                  simp only [Value.slice.injEq] at eL
                  obtain ⟨rfl, eL2, rfl⟩ := eL
                  obtain ⟨b, off, rfl, mL⟩ := kL (by rw [← HN.out]; omega)
                  have BKL := hid ((FRH.out.back HN.out hcn).fr F17.out)
                  have ct2 : (ct : Int) ≤ (n : Int) := by omega
                  have ct3 : ¬ lc = ct := by omega
                  have ct4 : (n : Int) ≤ (lc : Int) := by omega
                  have hDL : Hid (n - ct = (LL.drop ct).length) := hid (by rw [List.length_drop, ← HN.out])
                  clear kL mL eL2 hcL
                  go_upto_region 22 with (first
                    | (go_at_call 10; refine MC2.out.mono ?_; rintro e w8 ⟨hq, f8⟩; rcases hq with ⟨S2, v18, hr8, hm8, rfl, hc8⟩ | ⟨hr8, rfl⟩)
                    | (at_builtin; rw [← hXA]; refine wpList_app_LLm rfl _ _ rfl w6.heap.size FXA.out.size (.slice (some ⟨w6.heap.size, 0, none⟩) 1 1) 1 [.slice a17 k1 c17] rfl OXA.out rfl FXA.out BKL.out hDL.out (by omega) (by have := H8.out; have := HN.out; omega) ?_; intro v7 w7 news hN7 o7 g7; obtain ⟨a7, c7, e7, _⟩ := ownsRow_slice o7; subst e7; have F67 := hid (FXA.out.grown g7 (fun y hy => .inr (OXA.out.lt y hy).1)); have F7 := hid ((F4.out.trans (HF.out.trans F17.out)).trans F67.out); have LLX := hid (RdLL.cons hDL.out F67.out (by rw [← HK1L.out]; exact o7) (by rw [← HK1L.out]; exact RK1.out) hN7); have MC2 := hid (merge_c w7 LLX.out (HD.out.fr F7.out) (by rw [List.length_cons, List.length_drop]; have := H8.out; omega) (by rw [List.flatten_cons, List.length_append, ← HK1L.out]; have h1 := congrArg List.length FLB.out; rw [List.length_append] at h1; have := H80.out; omega) (by rw [← HDN.out]; omega) (Nat.lt_of_lt_of_le HZ4.out (F17.out.trans F67.out).size) old); clear o7 g7))
                  · have HM3 : MgS (kept old (sp ++ spU (LL.drop ct).flatten) S1 S1.length ++ (LL.drop ct).flatten) S2 := by
                      rw [List.flatten_cons, HK1.out] at hm8; exact hm8
                    have KEQ := hid (stages (sp := sp) (old := old) (by rw [FLB.out]; exact MG.out) MG1.out HM3)
                    rw [KEQ.out] at hc8
                    obtain ⟨a18, c18, e18⟩ := hc8.form
                    subst e18
                    rw [← HKL.out]
                    have RM := hid hc8.rd
                    rw [← HKL.out] at RM
                    have FE := hid (F7.out.trans f8)
                    have KV := hid (kvsd_q w8 (show RdK w8 (.slice a9 KL c9) (kept old sp S S.length) by rw [HKL.out]; exact CK.out.rd.fr (F34.out.trans (HF.out.trans (F17.out.trans (F67.out.trans f8))))) RM.out (by rw [← HKL.out]; omega) (by rw [← HKL.out]; omega))
                    rw [decide_eq_true rfl] at KV
                    clear hc8 f8 HM3 hr8 hm8 KEQ
                    go_wp2_with (go_at_call 12; refine KV.out.mono ?_; rintro e w9 ⟨rfl, m9, hm9⟩; have F9 : Hid (Fr [] w8 w9) := hid (by rw [hm9]; exact (Fr.refl _ _).drewN _); clear hm9)
                    go_ret
                    exact ⟨rfl, FE.out.trans F9.out⟩
                  · exfalso
                    rcases hr8 with ⟨p, hp, hn⟩ | hn
                    · rcases List.mem_cons.1 hp with rfl | hp
                      · exact hn K1R.out
                      · exact hn (HR.out p (List.mem_of_mem_drop hp))
                    · obtain ⟨S2, hS2⟩ := stages_ex (sp := sp) (old := old) (by rw [FLB.out]; exact MG.out) MG1.out
                      exact hn S2 (by rw [List.flatten_cons, HK1.out]; exact hS2)
                · have hce : ct = n := by omega
                  subst hce
                  have ct3 : (ct : Int) ≤ (ct : Int) := Int.le_refl _
                  have ct4 : (ct : Int) ≤ (lc : Int) := by omega
                  rcases la with _ | ad
                  · have hl0 : lc = 0 := HLN.out rfl
                    have hn0 : ct = 0 := by omega
                    subst hl0
                    subst hn0
                    go_upto_region 22 with (first
                      | (go_at_call 10; refine MC2.out.mono ?_; rintro e w8 ⟨hq, f8⟩; rcases hq with ⟨S2, v18, hr8, hm8, rfl, hc8⟩ | ⟨hr8, rfl⟩)
                      | (at_builtin; rw [← hXA]; refine wpList_app_LL0 rfl _ _ rfl w6.heap.size FXA.out.size (.slice (some ⟨w6.heap.size, 0, none⟩) 1 1) 1 [.slice a17 k1 c17] rfl OXA.out rfl (fun _ => rfl) (by omega) ?_; intro v7 w7 o7 g7; obtain ⟨a7, c7, e7, _⟩ := ownsRow_slice o7; subst e7; have F67 := hid (FXA.out.grown g7 (fun y hy => .inr (OXA.out.lt y hy).1)); have F7 := hid ((F4.out.trans (HF.out.trans F17.out)).trans F67.out); have LLX := hid (RdLL.cons (n := 0) (LL := LL.drop 0) (news := []) (by have h9 := HN.out; rw [List.length_drop]; omega) F67.out (by rw [← HK1L.out]; exact o7) (by rw [← HK1L.out]; exact RK1.out) ⟨by have h9 := HN.out; rw [List.length_drop, List.length_nil]; omega, fun j p hj => by rw [List.getElem?_eq_none (by have h9 := HN.out; rw [List.length_drop]; omega)] at hj; cases hj⟩); have MC2 := hid (merge_c w7 LLX.out (HD.out.fr F7.out) (by rw [List.length_cons, List.length_drop]; have := H8.out; omega) (by rw [List.flatten_cons, List.length_append, ← HK1L.out]; have h1 := congrArg List.length FLB.out; rw [List.length_append] at h1; have := H80.out; omega) (by rw [← HDN.out]; omega) (Nat.lt_of_lt_of_le HZ4.out (F17.out.trans F67.out).size) old); clear o7 g7))
                    · have HM3 : MgS (kept old (sp ++ spU (LL.drop 0).flatten) S1 S1.length ++ (LL.drop 0).flatten) S2 := by
                        rw [List.flatten_cons, HK1.out] at hm8; exact hm8
                      have KEQ := hid (stages (sp := sp) (old := old) (by rw [FLB.out]; exact MG.out) MG1.out HM3)
                      rw [KEQ.out] at hc8
                      obtain ⟨a18, c18, e18⟩ := hc8.form
                      subst e18
                      rw [← HKL.out]
                      have RM := hid hc8.rd
                      rw [← HKL.out] at RM
                      have FE := hid (F7.out.trans f8)
                      have KV := hid (kvsd_q w8 (show RdK w8 (.slice a9 KL c9) (kept old sp S S.length) by rw [HKL.out]; exact CK.out.rd.fr (F34.out.trans (HF.out.trans (F17.out.trans (F67.out.trans f8))))) RM.out (by rw [← HKL.out]; omega) (by rw [← HKL.out]; omega))
                      rw [decide_eq_true rfl] at KV
                      clear hc8 f8 HM3 hr8 hm8 KEQ
                      go_wp2_with (go_at_call 12; refine KV.out.mono ?_; rintro e w9 ⟨rfl, m9, hm9⟩; have F9 : Hid (Fr [] w8 w9) := hid (by rw [hm9]; exact (Fr.refl _ _).drewN _); clear hm9)
                      go_ret
                      exact ⟨rfl, FE.out.trans F9.out⟩
                    · exfalso
                      rcases hr8 with ⟨p, hp, hn⟩ | hn
                      · rcases List.mem_cons.1 hp with rfl | hp
                        · exact hn K1R.out
                        · exact hn (HR.out p (List.mem_of_mem_drop hp))
                      · obtain ⟨S2, hS2⟩ := stages_ex (sp := sp) (old := old) (by rw [FLB.out]; exact MG.out) MG1.out
                        exact hn S2 (by rw [List.flatten_cons, HK1.out]; exact hS2)
                  · by_cases hlc : lc = ct
                    · subst hlc
                      go_upto_region 22 with (first
                        | (go_at_call 10; refine MC2.out.mono ?_; rintro e w8 ⟨hq, f8⟩; rcases hq with ⟨S2, v18, hr8, hm8, rfl, hc8⟩ | ⟨hr8, rfl⟩)
                        | (at_builtin; rw [← hXA]; refine wpList_app_LL0 rfl _ _ rfl w6.heap.size FXA.out.size (.slice (some ⟨w6.heap.size, 0, none⟩) 1 1) 1 [.slice a17 k1 c17] rfl OXA.out rfl (fun h => by cases h) (by omega) ?_; intro v7 w7 o7 g7; obtain ⟨a7, c7, e7, _⟩ := ownsRow_slice o7; subst e7; have F67 := hid (FXA.out.grown g7 (fun y hy => .inr (OXA.out.lt y hy).1)); have F7 := hid ((F4.out.trans (HF.out.trans F17.out)).trans F67.out); have LLX := hid (RdLL.cons (n := 0) (LL := LL.drop lc) (news := []) (by have h9 := HN.out; rw [List.length_drop]; omega) F67.out (by rw [← HK1L.out]; exact o7) (by rw [← HK1L.out]; exact RK1.out) ⟨by have h9 := HN.out; rw [List.length_drop, List.length_nil]; omega, fun j p hj => by rw [List.getElem?_eq_none (by have h9 := HN.out; rw [List.length_drop]; omega)] at hj; cases hj⟩); have MC2 := hid (merge_c w7 LLX.out (HD.out.fr F7.out) (by rw [List.length_cons, List.length_drop]; have := H8.out; omega) (by rw [List.flatten_cons, List.length_append, ← HK1L.out]; have h1 := congrArg List.length FLB.out; rw [List.length_append] at h1; have := H80.out; omega) (by rw [← HDN.out]; omega) (Nat.lt_of_lt_of_le HZ4.out (F17.out.trans F67.out).size) old); clear o7 g7))
                      · have HM3 : MgS (kept old (sp ++ spU (LL.drop lc).flatten) S1 S1.length ++ (LL.drop lc).flatten) S2 := by
                          rw [List.flatten_cons, HK1.out] at hm8; exact hm8
                        have KEQ := hid (stages (sp := sp) (old := old) (by rw [FLB.out]; exact MG.out) MG1.out HM3)
                        rw [KEQ.out] at hc8
                        obtain ⟨a18, c18, e18⟩ := hc8.form
                        subst e18
                        rw [← HKL.out]
                        have RM := hid hc8.rd
                        rw [← HKL.out] at RM
                        have FE := hid (F7.out.trans f8)
                        have KV := hid (kvsd_q w8 (show RdK w8 (.slice a9 KL c9) (kept old sp S S.length) by rw [HKL.out]; exact CK.out.rd.fr (F34.out.trans (HF.out.trans (F17.out.trans (F67.out.trans f8))))) RM.out (by rw [← HKL.out]; omega) (by rw [← HKL.out]; omega))
                        rw [decide_eq_true rfl] at KV
                        clear hc8 f8 HM3 hr8 hm8 KEQ
                        go_wp2_with (go_at_call 12; refine KV.out.mono ?_; rintro e w9 ⟨rfl, m9, hm9⟩; have F9 : Hid (Fr [] w8 w9) := hid (by rw [hm9]; exact (Fr.refl _ _).drewN _); clear hm9)
                        go_ret
                        exact ⟨rfl, FE.out.trans F9.out⟩
                      · exfalso
                        rcases hr8 with ⟨p, hp, hn⟩ | hn
                        · rcases List.mem_cons.1 hp with rfl | hp
                          · exact hn K1R.out
                          · exact hn (HR.out p (List.mem_of_mem_drop hp))
                        · obtain ⟨S2, hS2⟩ := stages_ex (sp := sp) (old := old) (by rw [FLB.out]; exact MG.out) MG1.out
                          exact hn S2 (by rw [List.flatten_cons, HK1.out]; exact hS2)
                    · have hlc2 : ¬ ct = lc := fun h => hlc h.symm
                      go_upto_region 22 with (first
                        | (go_at_call 10; refine MC2.out.mono ?_; rintro e w8 ⟨hq, f8⟩; rcases hq with ⟨S2, v18, hr8, hm8, rfl, hc8⟩ | ⟨hr8, rfl⟩)
                        | (at_builtin; rw [← hXA]; refine wpList_app_LL0 rfl _ _ rfl w6.heap.size FXA.out.size (.slice (some ⟨w6.heap.size, 0, none⟩) 1 1) 1 [.slice a17 k1 c17] rfl OXA.out rfl (fun h => by cases h) (by omega) ?_; intro v7 w7 o7 g7; obtain ⟨a7, c7, e7, _⟩ := ownsRow_slice o7; subst e7; have F67 := hid (FXA.out.grown g7 (fun y hy => .inr (OXA.out.lt y hy).1)); have F7 := hid ((F4.out.trans (HF.out.trans F17.out)).trans F67.out); have LLX := hid (RdLL.cons (n := 0) (LL := LL.drop ct) (news := []) (by have h9 := HN.out; rw [List.length_drop]; omega) F67.out (by rw [← HK1L.out]; exact o7) (by rw [← HK1L.out]; exact RK1.out) ⟨by have h9 := HN.out; rw [List.length_drop, List.length_nil]; omega, fun j p hj => by rw [List.getElem?_eq_none (by have h9 := HN.out; rw [List.length_drop]; omega)] at hj; cases hj⟩); have MC2 := hid (merge_c w7 LLX.out (HD.out.fr F7.out) (by rw [List.length_cons, List.length_drop]; have := H8.out; omega) (by rw [List.flatten_cons, List.length_append, ← HK1L.out]; have h1 := congrArg List.length FLB.out; rw [List.length_append] at h1; have := H80.out; omega) (by rw [← HDN.out]; omega) (Nat.lt_of_lt_of_le HZ4.out (F17.out.trans F67.out).size) old); clear o7 g7))
                      · have HM3 : MgS (kept old (sp ++ spU (LL.drop ct).flatten) S1 S1.length ++ (LL.drop ct).flatten) S2 := by
                          rw [List.flatten_cons, HK1.out] at hm8; exact hm8
                        have KEQ := hid (stages (sp := sp) (old := old) (by rw [FLB.out]; exact MG.out) MG1.out HM3)
                        rw [KEQ.out] at hc8
                        obtain ⟨a18, c18, e18⟩ := hc8.form
                        subst e18
                        rw [← HKL.out]
                        have RM := hid hc8.rd
                        rw [← HKL.out] at RM
                        have FE := hid (F7.out.trans f8)
                        have KV := hid (kvsd_q w8 (show RdK w8 (.slice a9 KL c9) (kept old sp S S.length) by rw [HKL.out]; exact CK.out.rd.fr (F34.out.trans (HF.out.trans (F17.out.trans (F67.out.trans f8))))) RM.out (by rw [← HKL.out]; omega) (by rw [← HKL.out]; omega))
                        rw [decide_eq_true rfl] at KV
                        clear hc8 f8 HM3 hr8 hm8 KEQ
                        go_wp2_with (go_at_call 12; refine KV.out.mono ?_; rintro e w9 ⟨rfl, m9, hm9⟩; have F9 : Hid (Fr [] w8 w9) := hid (by rw [hm9]; exact (Fr.refl _ _).drewN _); clear hm9)
                        go_ret
                        exact ⟨rfl, FE.out.trans F9.out⟩
                      · exfalso
                        rcases hr8 with ⟨p, hp, hn⟩ | hn
                        · rcases List.mem_cons.1 hp with rfl | hp
                          · exact hn K1R.out
                          · exact hn (HR.out p (List.mem_of_mem_drop hp))
                        · obtain ⟨S2, hS2⟩ := stages_ex (sp := sp) (old := old) (by rw [FLB.out]; exact MG.out) MG1.out
                          exact hn S2 (by rw [List.flatten_cons, HK1.out]; exact hS2)
              · exfalso
                rcases hr6 with ⟨p, hp, hn⟩ | hn
                · exact hn (HR.out p (List.mem_of_mem_take hp))
                · obtain ⟨S', hS', _⟩ := MG.out.part (A' := (LL.take ct).flatten) (by
                    have h1 := List.sublist_append_left (LL.take ct).flatten (LL.drop ct).flatten
                    rw [FLB.out] at h1
                    exact h1)
                  exact hn S' hS'
        · exact absurd HR.out (by
            rintro hra
            rcases hr' with ⟨p, hp, hn⟩ | hn
            · exact hn (hra p hp)
            · exact hn _ MG.out)
      · have F3 := hid (F2.out.trans f3)
        have SC := hid (sorted_c w3 (HL.out.fr F3.out) (by have := H8.out; omega) (by have := H80.out; omega))
        have HR := hid hr
        clear f3 hr
        go_upto_if 56 with (go_at_call 18; refine SC.out.mono ?_; rintro e w4 ⟨hq, f4⟩; rcases hq with ⟨S', v11, hr', hm', rfl, hc', ik⟩ | ⟨hr', rfl⟩)
        · exact absurd HR.out (by
            rintro (⟨p, hp, hn⟩ | hn)
            · exact hn (hr' p hp)
            · exact hn _ hm')
        · have F4 := hid (F3.out.trans f4)
          clear f4 hr'
          go_wp2
          go_ret
          exact ⟨rfl, F4.out⟩
    · have F2 := hid (F1.out.trans f2)
      clear f2
      go_wp2
      go_ret
      exact ⟨rfl, F2.out⟩
  · have FWB : Hid (Calls Try.prog 9 #[.slice la n lc] w1 fun e w' => (∃ b, e = .returned (.bool b)) ∧ Fr [] w1 w') := hid (FW.out.mono (fun e w' hq => ⟨by rcases hq.1 with ⟨e1, _⟩ | e1 <;> exact ⟨_, e1⟩, hq.2⟩))
    clear FW
    by_cases h20 : dn ≤ 20
    · have h20' : ¬ (20 : Int) < (dn : Int) := by omega
      by_cases hc0 : cut < 0
      · clear hgood
        go_upto_if 38 with (go_at_call 9; refine FWB.out.mono ?_; rintro e w2 ⟨⟨b, rfl⟩, f2⟩; have F2 := hid (F1.out.trans f2); clear f2; rcases b with _ | _)
        · go_wp2
          go_ret
          exact ⟨rfl, F2.out⟩
        · go_wp2
          go_ret
          exact ⟨rfl, F2.out⟩
      · have hc1 : (n : Int) < cut := by omega
        clear hgood
        go_upto_if 38 with (go_at_call 9; refine FWB.out.mono ?_; rintro e w2 ⟨⟨b, rfl⟩, f2⟩; have F2 := hid (F1.out.trans f2); clear f2; rcases b with _ | _)
        · go_wp2
          go_ret
          exact ⟨rfl, F2.out⟩
        · go_wp2
          go_ret
          exact ⟨rfl, F2.out⟩
    · have h20' : (20 : Int) < (dn : Int) := by omega
      clear hgood
      go_upto_if 38 with (go_at_call 9; refine FWB.out.mono ?_; rintro e w2 ⟨⟨b, rfl⟩, f2⟩; have F2 := hid (F1.out.trans f2); clear f2; rcases b with _ | _)
      · go_wp2
        go_ret
        exact ⟨rfl, F2.out⟩
      · go_wp2
        go_ret
        exact ⟨rfl, F2.out⟩
end Go.Proofs.Ythmlpjogbdpgiaa
