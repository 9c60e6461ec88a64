/-
  The document's Merge.
-/
import Derived.Test.YthmlpjogbdpgiaaCT9
namespace Go.Proofs.Ythmlpjogbdpgiaa
open Go.ChangeShapes Go.WideShapes Go.ChangeAt Go.RowKit

/-- What the document's Merge answers. -/
def RMgO (w' : World) (LL : List Ps) (old : Nat) (sp : Ps) (e : Ending) : Prop :=
  (∃ S v, (∀ p ∈ LL, Rises p) ∧ MgS LL.flatten S ∧ e = .returned (.tuple #[v, .int .i64 0]) ∧ RdK w' v (kept old sp S S.length)) ∨
  (((∃ p ∈ LL, ¬ Rises p) ∨ ∀ S, ¬ MgS LL.flatten S) ∧ e = .returned (.tuple #[.slice none 0 0, .int .i64 101]))
set_option maxRecDepth 20000 in
set_option maxHeartbeats 12800000 in
theorem rmerge_c (w : World) {lv dv : Value} {LL : List Ps} {sp : Ps} (h : RdLL w lv LL) (hd : RdK w dv sp) (hn : LL.length ≤ 100000) (hf : LL.flatten.length ≤ 1000000) (hsp : sp.length ≤ 1000000) (old : Nat) :
    Calls Try.prog 11 #[lv, .int .u64 (old : Int), dv] w fun e w' => RMgO w' LL old sp e ∧ Fr [] w w' := by
  have SC := hid (sorted_c w h hn hf)
  obtain ⟨la, lc, rfl, hlc, _⟩ := h
  have HD := hid hd
  obtain ⟨da, dc, rfl, _⟩ := hd
  obtain ⟨LN, hLN⟩ : ∃ q, q = LL.length := ⟨_, rfl⟩
  obtain ⟨dn, hdn⟩ : ∃ q, q = sp.length := ⟨_, rfl⟩
  rw [← hLN] at SC hlc ⊢
  rw [← hdn] at HD ⊢
  clear hLN hdn hn
  go_enter Try.func11, Try.ntmps11
  go_upto_if 26 with (go_at_call 18; refine SC.out.mono ?_; rintro e w1 ⟨hq, f1⟩; rcases hq with ⟨S, v, hr, hm, rfl, hc, hk⟩ | ⟨hr, rfl⟩)
  rotate_left
  · have HR := hid hr
    have F1 := hid f1
    clear hr f1
    go_wp2
    go_ret2
    exact ⟨.inr ⟨HR.out, rfl⟩, F1.out⟩
  have RI := hid hr
  have MG := hid hm
  have F1 := hid f1
  have IK := hid hk
  have RS := hc.rd f1
  have HSL : S.length ≤ 1000000 := by rw [hm.1.length_eq]; exact hf
  have HDW := hid (HD.out.fr f1)
  clear hr hm f1 hk hc HD SC
  obtain ⟨a, c, rfl, hcc, k1⟩ := RS
  have H1 := hid k1
  obtain ⟨n, hnn⟩ : ∃ q, q = S.length := ⟨_, rfl⟩
  have HN := hid hnn
  rw [← hnn] at HSL hcc ⊢
  clear k1 hnn
  have R0 : Hid (ColR w1 w1 w1.heap.size (.slice none 0 0) (kept old sp S 0)) := hid (ColR.nil _ _ _)
  go_wp2_with fail
  go_loopw [10, 11] (fun v10 v11 wr => ∃ i : Nat, v11 = .int .i64 (i : Int) ∧ i ≤ n ∧ ColR w1 wr w1.heap.size v10 (kept old sp S i) ∧ Fr [] w1 wr) (fun _ v11 _ => n - (intOf v11).toNat)
  case atStart => exact ⟨0, rfl, Nat.zero_le _, R0.out, Fr.refl _ _⟩
  case round =>
    obtain ⟨i, rfl, hi, cr, hf2⟩ := hrel
    have HF := hid hf2
    have CR := hid cr
    clear hf2 cr R0
    by_cases hlt : i < n
    · have hil : i < S.length := by rw [← HN.out]; exact hlt
      obtain ⟨b, off, rfl, m1⟩ := H1.out (by omega)
      obtain ⟨ka, kc, va, vc, P⟩ := m1 i _ (ps_at hil)
      have z1 := cell_fr HF.out P.ck
      have z2 := cell_fr HF.out P.cv
      have RK := hid P.rk
      have RV := hid P.rv
      have PH := hid P
      dsimp only at z1 z2 RK RV
      have hki : isK (kA S i) = true := IK.out _ (List.mem_of_getElem? (ps_at hil))
      have hkl := isK_len hki
      obtain ⟨q, o, c0, hp0, hc0⟩ := RK.out.place (by omega)
      simp only [Value.slice.injEq] at hp0
      obtain ⟨rfl, hx0, rfl⟩ := hp0
      clear hx0
      have SP := hid (refsplit_yes wr (RK.out.fr HF.out) P.bk hc0 hki)
      have RF := hid (RK.out.front (q := (kA S i).length - 8) (by omega))
      have HUS : Hid ((kA S i).take ((kA S i).length - 8) = userL (kA S i)) := hid rfl
      rw [HUS.out] at RF
      have BF : Hid (By (userL (kA S i))) := hid (P.bk.take _)
      have LFF : Hid ((userL (kA S i)).length ≤ 140737488355328) := hid (by have := P.lk; dsimp only at this; unfold userL; rw [List.length_take]; omega)
      have INC := hid (fun W (f : Fr [] w1 W) => in_c W (RF.out.fr f) BF.out LFF.out (HDW.out.fr f) hsp)
      have KP : Hid (kept old sp S (i + 1) = kept old sp S i ++ (if stay old sp S i then [(kA S i, vA S i)] else [])) := hid rfl
      have HKL : Hid ((kept old sp S i).length ≤ 1000000) := hid (Nat.le_trans (kept_len old sp S i) (by omega))
      obtain ⟨sq, hsq⟩ : ∃ q, q = tailN (kA S i) / 256 := ⟨_, rfl⟩
      obtain ⟨kd, hkd⟩ : ∃ q, q = tailN (kA S i) % 256 := ⟨_, rfl⟩
      obtain ⟨kl, hkl2⟩ : ∃ q, q = (kA S i).length := ⟨_, rfl⟩
      obtain ⟨vl, hvl2⟩ : ∃ q, q = (vA S i).length := ⟨_, rfl⟩
      obtain ⟨ib, hib⟩ : ∃ q, q = inSp sp (userL (kA S i)) := ⟨_, rfl⟩
      have HSQ := hid hsq
      have HKD := hid hkd
      have HKL2 := hid hkl2
      have HVL2 := hid hvl2
      have HIB := hid hib
      rw [← hsq, ← hkd, ← hkl2] at SP
      rw [← hkl2] at z1 hkl hc0 INC
      rw [← hvl2] at z2
      rw [← hib] at INC
      have hkl8 : 8 ≤ kl := hkl.1
      have hlt' : (i : Int) < (n : Int) := by omega
      have HM := hid m1
      clear P m1 hsq hkd hkl2 hvl2 hib hki hkl
      by_cases h0 : i = 0
      · subst h0
        simp only [Nat.zero_mul, Nat.add_zero] at z1 z2
        rw [show ((0 : Nat) : Int) = 0 from rfl]
        by_cases hk0 : kd = 0
        · have hk1 : tailN (kA S 0) % 256 = 0 := by rw [← HKD.out]; exact hk0
          subst hk0
          rw [show ((0 : Nat) : Int) = 0 from rfl] at SP
          by_cases hs : sq ≤ old
          · have hs1 : tailN (kA S 0) / 256 ≤ old := by rw [← HSQ.out]; exact hs
            have hsI : (sq : Int) ≤ (old : Int) := by omega
            rcases hb : ib with _ | _
            · have hb1 : inSp sp (userL (kA S 0)) = false := by rw [← HIB.out]; exact hb
              rw [hb] at INC
              have KE : Hid (kept old sp S (0 + 1) = kept old sp S 0) := hid (by rw [KP.out, show stay old sp S 0 = false by unfold stay seqA; simp [hk1, hs1, hb1], if_neg (by simp), List.append_nil])
              go_wp2_with (first | (go_at_call 19; refine (INC.out _ HF.out).mono ?_; rintro e w4 ⟨rfl, f4⟩; have F4 := hid (HF.out.trans f4); have CRF := hid (f4); have z7 := cell_fr f4 z1; have z8 := cell_fr f4 z2; clear f4) | (go_at_call_of 20 (Value.slice (some ⟨q, o, none⟩) kl kc); refine SP.out.mono ?_; rintro e w2 ⟨rfl, h⟩; rw [h]; clear h))
              go_roundw
              case rel => exact ⟨1, by go_num, by omega, by rw [KE.out]; exact (CR.out.keep CRF.out (fun _ _ hx => by cases hx)), F4.out⟩
              case measure => simp [intOf]; omega
            · have hb1 : inSp sp (userL (kA S 0)) = true := by rw [← HIB.out]; exact hb
              rw [hb] at INC
              have KE : Hid (kept old sp S (0 + 1) = kept old sp S 0 ++ [(kA S 0, vA S 0)]) := hid (by rw [KP.out, show stay old sp S 0 = true by unfold stay seqA; simp [hk1, hs1, hb1], if_pos rfl])
              go_upto_region 13 with (first | (go_at_call 19; refine (INC.out _ HF.out).mono ?_; rintro e w4 ⟨rfl, f4⟩; have F4 := hid (HF.out.trans f4); have CRF := hid (f4); have z7 := cell_fr f4 z1; have z8 := cell_fr f4 z2; clear f4) | (go_at_call_of 20 (Value.slice (some ⟨q, o, none⟩) kl kc); refine SP.out.mono ?_; rintro e w2 ⟨rfl, h⟩; rw [h]; clear h))
              obtain ⟨cs, o9, h9⟩ := (CR.out.keep CRF.out (fun _ _ hx => by cases hx))
              have O4 := hid (ownsRow_fr o9 ((Fr.refl [] w4).alloc (.cells #[.slice (some ⟨q, o, none⟩) kl kc, .slice va vl vc] 50)))
              have SZ4 := hid (F4.out.alloc (.cells #[.slice (some ⟨q, o, none⟩) kl kc, .slice va vl vc] 50)).size
              have H9 := hid h9
              clear h9 o9
              go_wp2_with (at_builtin; refine wpList_appKV rfl _ _ rfl w1.heap.size SZ4.out u10 _ cs rfl O4.out w4.heap.size rfl (blk_new _ _) (by intro u hu; simp at hu; rcases hu with rfl | rfl <;> rfl) (by have := HKL.out; omega) ?_; intro v6 w6 o6 g6; have O6 := hid o6; have G6 := hid g6; clear o6 g6)
              have C6 : Hid (ColR w1 w6 w1.heap.size v6 (kept old sp S 0 ++ [(kA S 0, vA S 0)])) := hid (ColR.app (by have := O4.out.1; omega) H9.out RK.out RV.out PH.out.bk PH.out.bv' PH.out.lk PH.out.lv (by have h7 := O6.out; rw [HKL2.out, HVL2.out] at h7; exact h7))
              have F6 : Hid (Fr [] w1 w6) := hid ((F4.out.alloc (.cells #[.slice (some ⟨q, o, none⟩) kl kc, .slice va vl vc] 50)).grown G6.out (fun k hk => .inr (O4.out.lt k hk).1))
              go_roundw
              case rel => exact ⟨1, by go_num, by omega, by rw [KE.out]; exact C6.out, F6.out⟩
              case measure => simp [intOf]; omega
          · have hs1 : ¬ tailN (kA S 0) / 256 ≤ old := by rw [← HSQ.out]; exact hs
            have hsI : ¬ (sq : Int) ≤ (old : Int) := by omega
            have KE : Hid (kept old sp S (0 + 1) = kept old sp S 0 ++ [(kA S 0, vA S 0)]) := hid (by rw [KP.out, show stay old sp S 0 = true by unfold stay seqA; simp [hk1, hs1], if_pos rfl])
            go_upto_region 13 with (first | (go_at_call_of 20 (Value.slice (some ⟨q, o, none⟩) kl kc); refine SP.out.mono ?_; rintro e w2 ⟨rfl, h⟩; rw [h]; clear h))
            obtain ⟨cs, o9, h9⟩ := CR.out
            have O4 := hid (ownsRow_fr o9 ((Fr.refl [] wr).alloc (.cells #[.slice (some ⟨q, o, none⟩) kl kc, .slice va vl vc] 50)))
            have SZ4 := hid (HF.out.alloc (.cells #[.slice (some ⟨q, o, none⟩) kl kc, .slice va vl vc] 50)).size
            have H9 := hid h9
            clear h9 o9
            go_wp2_with (at_builtin; refine wpList_appKV rfl _ _ rfl w1.heap.size SZ4.out u10 _ cs rfl O4.out wr.heap.size rfl (blk_new _ _) (by intro u hu; simp at hu; rcases hu with rfl | rfl <;> rfl) (by have := HKL.out; omega) ?_; intro v6 w6 o6 g6; have O6 := hid o6; have G6 := hid g6; clear o6 g6)
            have C6 : Hid (ColR w1 w6 w1.heap.size v6 (kept old sp S 0 ++ [(kA S 0, vA S 0)])) := hid (ColR.app (by have := O4.out.1; omega) H9.out RK.out RV.out PH.out.bk PH.out.bv' PH.out.lk PH.out.lv (by have h7 := O6.out; rw [HKL2.out, HVL2.out] at h7; exact h7))
            have F6 : Hid (Fr [] w1 w6) := hid ((HF.out.alloc (.cells #[.slice (some ⟨q, o, none⟩) kl kc, .slice va vl vc] 50)).grown G6.out (fun k hk => .inr (O4.out.lt k hk).1))
            go_roundw
            case rel => exact ⟨1, by go_num, by omega, by rw [KE.out]; exact C6.out, F6.out⟩
            case measure => simp [intOf]; omega
        · have hk1 : ¬ tailN (kA S 0) % 256 = 0 := by rw [← HKD.out]; exact hk0
          have hk3 : ¬ ((kd : Int) = 0) := by omega
          have hk2 : ((kd : Int) == 0) = false := by rw [beq_eq_false_iff_ne]; omega
          have KE : Hid (kept old sp S (0 + 1) = kept old sp S 0 ++ [(kA S 0, vA S 0)]) := hid (by rw [KP.out, show stay old sp S 0 = true by unfold stay seqA; simp [hk1], if_pos rfl])
          go_upto_region 13 with (first | (go_at_call_of 20 (Value.slice (some ⟨q, o, none⟩) kl kc); refine SP.out.mono ?_; rintro e w2 ⟨rfl, h⟩; rw [h]; clear h))
          obtain ⟨cs, o9, h9⟩ := CR.out
          have O4 := hid (ownsRow_fr o9 ((Fr.refl [] wr).alloc (.cells #[.slice (some ⟨q, o, none⟩) kl kc, .slice va vl vc] 50)))
          have SZ4 := hid (HF.out.alloc (.cells #[.slice (some ⟨q, o, none⟩) kl kc, .slice va vl vc] 50)).size
          have H9 := hid h9
          clear h9 o9
          go_wp2_with (at_builtin; refine wpList_appKV rfl _ _ rfl w1.heap.size SZ4.out u10 _ cs rfl O4.out wr.heap.size rfl (blk_new _ _) (by intro u hu; simp at hu; rcases hu with rfl | rfl <;> rfl) (by have := HKL.out; omega) ?_; intro v6 w6 o6 g6; have O6 := hid o6; have G6 := hid g6; clear o6 g6)
          have C6 : Hid (ColR w1 w6 w1.heap.size v6 (kept old sp S 0 ++ [(kA S 0, vA S 0)])) := hid (ColR.app (by have := O4.out.1; omega) H9.out RK.out RV.out PH.out.bk PH.out.bv' PH.out.lk PH.out.lv (by have h7 := O6.out; rw [HKL2.out, HVL2.out] at h7; exact h7))
          have F6 : Hid (Fr [] w1 w6) := hid ((HF.out.alloc (.cells #[.slice (some ⟨q, o, none⟩) kl kc, .slice va vl vc] 50)).grown G6.out (fun k hk => .inr (O4.out.lt k hk).1))
          go_roundw
          case rel => exact ⟨1, by go_num, by omega, by rw [KE.out]; exact C6.out, F6.out⟩
          case measure => simp [intOf]; omega
      obtain ⟨i', rfl⟩ : ∃ i', i = i' + 1 := ⟨i - 1, by omega⟩
      have hil' : i' < S.length := by omega
      obtain ⟨ja, jc, ua, uc, P2⟩ := HM.out i' _ (ps_at hil')
      have y1 := cell_fr HF.out P2.ck
      have RJ := hid P2.rk
      dsimp only at y1 RJ
      have hki2 : isK (kA S i') = true := IK.out _ (List.mem_of_getElem? (ps_at hil'))
      have hkl3 := isK_len hki2
      obtain ⟨q2, o2, c2, hp2, hc2⟩ := RJ.out.place (by omega)
      simp only [Value.slice.injEq] at hp2
      obtain ⟨rfl, hx2, rfl⟩ := hp2
      clear hx2
      have SQ := hid (refsplit_yes wr (RJ.out.fr HF.out) P2.bk hc2 hki2)
      have RG := hid (RJ.out.front (q := (kA S i').length - 8) (by omega))
      have HUT : Hid ((kA S i').take ((kA S i').length - 8) = userL (kA S i')) := hid rfl
      rw [HUT.out] at RG
      have BG : Hid (By (userL (kA S i'))) := hid (P2.bk.take _)
      have LGG : Hid ((userL (kA S i')).length ≤ 140737488355328) := hid (by have := P2.lk; dsimp only at this; unfold userL; rw [List.length_take]; omega)
      have RB := hid (refbytes_c (RF.out.fr HF.out) (RG.out.fr HF.out) BF.out BG.out LFF.out LGG.out)
      obtain ⟨sr, hsr⟩ : ∃ q, q = tailN (kA S i') / 256 := ⟨_, rfl⟩
      obtain ⟨jl, hjl⟩ : ∃ q, q = (kA S i').length := ⟨_, rfl⟩
      obtain ⟨cm, hcm⟩ : ∃ q, q = cmpN (userL (kA S (i' + 1))) (userL (kA S i')) := ⟨_, rfl⟩
      have HSR := hid hsr
      have HCM := hid hcm
      rw [← hsr, ← hjl] at SQ
      rw [← hjl] at y1 hc2 hkl3
      rw [← HKL2.out, ← hjl, ← hcm] at RB
      have hjl8 : 8 ≤ jl := hkl3.1
      have hpos : (0 : Int) < (i' : Int) + 1 := by omega
      have hsub : IntKind.i64.wrap ((i' : Int) + 1 - 1) = (i' : Int) := by rw [IntKind.wrap_i64]; omega
      have hin : (i' : Int) < (n : Int) := by omega
      clear P2 hsr hjl hcm hki2 hkl3
      by_cases hu : userL (kA S (i' + 1)) = userL (kA S i')
      · have hc00 : cm = 0 := by rw [HCM.out]; exact (cmpN_eq _ _).2 hu
        subst hc00
        by_cases ht : sr ≤ old
        · have ht1 : tailN (kA S i') / 256 ≤ old := by rw [← HSR.out]; exact ht
          have htI : (sr : Int) ≤ (old : Int) := by omega
          have KE : Hid (kept old sp S (i' + 1 + 1) = kept old sp S (i' + 1)) := hid (by rw [KP.out, show stay old sp S (i' + 1) = false by unfold stay seqA; simp [hu, ht1], if_neg (by simp), List.append_nil])
          go_wp2_with (first | (go_at_call 21; refine RB.out.mono ?_; rintro e w3 ⟨rfl, f3⟩; have F3 := hid (HF.out.trans f3); have CRF0 := hid f3; have z3 := cell_fr f3 z1; have z4 := cell_fr f3 z2; clear f3) | (go_at_call_of 20 (Value.slice (some ⟨q2, o2, none⟩) jl jc); refine SQ.out.mono ?_; rintro e w2 ⟨rfl, h⟩; rw [h]; clear h) | (go_at_call_of 20 (Value.slice (some ⟨q, o, none⟩) kl kc); refine SP.out.mono ?_; rintro e w2 ⟨rfl, h⟩; rw [h]; clear h))
          go_roundw
          case rel => exact ⟨i' + 1 + 1, by go_num, by omega, by rw [KE.out]; exact (CR.out.keep CRF0.out (fun _ _ hx => by cases hx)), F3.out⟩
          case measure => simp [intOf]; omega
        · have ht1 : ¬ tailN (kA S i') / 256 ≤ old := by rw [← HSR.out]; exact ht
          have htI : ¬ (sr : Int) ≤ (old : Int) := by omega
          by_cases hk0 : kd = 0
          · have hk1 : tailN (kA S (i' + 1)) % 256 = 0 := by rw [← HKD.out]; exact hk0
            subst hk0
            rw [show ((0 : Nat) : Int) = 0 from rfl] at SP
            by_cases hs : sq ≤ old
            · have hs1 : tailN (kA S (i' + 1)) / 256 ≤ old := by rw [← HSQ.out]; exact hs
              have hsI : (sq : Int) ≤ (old : Int) := by omega
              rcases hb : ib with _ | _
              · have hb1 : inSp sp (userL (kA S (i' + 1))) = false := by rw [← HIB.out]; exact hb
                rw [hb] at INC
                have KE : Hid (kept old sp S (i' + 1 + 1) = kept old sp S (i' + 1)) := hid (by rw [KP.out, show stay old sp S (i' + 1) = false by unfold stay seqA; simp [hu, ht1, hk1, hs1, (by rw [← hu]; exact hb1 : inSp sp (userL (kA S i')) = false)], if_neg (by simp), List.append_nil])
                go_wp2_with (first | (go_at_call 19; refine (INC.out _ F3.out).mono ?_; rintro e w4 ⟨rfl, f4⟩; have F4 := hid (F3.out.trans f4); have CRF := hid (CRF0.out.trans f4); have z7 := cell_fr f4 z3; have z8 := cell_fr f4 z4; clear f4) | (go_at_call 21; refine RB.out.mono ?_; rintro e w3 ⟨rfl, f3⟩; have F3 := hid (HF.out.trans f3); have CRF0 := hid f3; have z3 := cell_fr f3 z1; have z4 := cell_fr f3 z2; clear f3) | (go_at_call_of 20 (Value.slice (some ⟨q2, o2, none⟩) jl jc); refine SQ.out.mono ?_; rintro e w2 ⟨rfl, h⟩; rw [h]; clear h) | (go_at_call_of 20 (Value.slice (some ⟨q, o, none⟩) kl kc); refine SP.out.mono ?_; rintro e w2 ⟨rfl, h⟩; rw [h]; clear h))
                go_roundw
                case rel => exact ⟨i' + 1 + 1, by go_num, by omega, by rw [KE.out]; exact (CR.out.keep CRF.out (fun _ _ hx => by cases hx)), F4.out⟩
                case measure => simp [intOf]; omega
              · have hb1 : inSp sp (userL (kA S (i' + 1))) = true := by rw [← HIB.out]; exact hb
                rw [hb] at INC
                have KE : Hid (kept old sp S (i' + 1 + 1) = kept old sp S (i' + 1) ++ [(kA S (i' + 1), vA S (i' + 1))]) := hid (by rw [KP.out, show stay old sp S (i' + 1) = true by unfold stay seqA; simp [hu, ht1, hk1, hs1, (by rw [← hu]; exact hb1 : inSp sp (userL (kA S i')) = true)], if_pos rfl])
                go_upto_region 13 with (first | (go_at_call 19; refine (INC.out _ F3.out).mono ?_; rintro e w4 ⟨rfl, f4⟩; have F4 := hid (F3.out.trans f4); have CRF := hid (CRF0.out.trans f4); have z7 := cell_fr f4 z3; have z8 := cell_fr f4 z4; clear f4) | (go_at_call 21; refine RB.out.mono ?_; rintro e w3 ⟨rfl, f3⟩; have F3 := hid (HF.out.trans f3); have CRF0 := hid f3; have z3 := cell_fr f3 z1; have z4 := cell_fr f3 z2; clear f3) | (go_at_call_of 20 (Value.slice (some ⟨q2, o2, none⟩) jl jc); refine SQ.out.mono ?_; rintro e w2 ⟨rfl, h⟩; rw [h]; clear h) | (go_at_call_of 20 (Value.slice (some ⟨q, o, none⟩) kl kc); refine SP.out.mono ?_; rintro e w2 ⟨rfl, h⟩; rw [h]; clear h))
                obtain ⟨cs, o9, h9⟩ := (CR.out.keep CRF.out (fun _ _ hx => by cases hx))
                have O4 := hid (ownsRow_fr o9 ((Fr.refl [] w4).alloc (.cells #[.slice (some ⟨q, o, none⟩) kl kc, .slice va vl vc] 50)))
                have SZ4 := hid (F4.out.alloc (.cells #[.slice (some ⟨q, o, none⟩) kl kc, .slice va vl vc] 50)).size
                have H9 := hid h9
                clear h9 o9
                go_wp2_with (at_builtin; refine wpList_appKV rfl _ _ rfl w1.heap.size SZ4.out u10 _ cs rfl O4.out w4.heap.size rfl (blk_new _ _) (by intro u hu; simp at hu; rcases hu with rfl | rfl <;> rfl) (by have := HKL.out; omega) ?_; intro v6 w6 o6 g6; have O6 := hid o6; have G6 := hid g6; clear o6 g6)
                have C6 : Hid (ColR w1 w6 w1.heap.size v6 (kept old sp S (i' + 1) ++ [(kA S (i' + 1), vA S (i' + 1))])) := hid (ColR.app (by have := O4.out.1; omega) H9.out RK.out RV.out PH.out.bk PH.out.bv' PH.out.lk PH.out.lv (by have h7 := O6.out; rw [HKL2.out, HVL2.out] at h7; exact h7))
                have F6 : Hid (Fr [] w1 w6) := hid ((F4.out.alloc (.cells #[.slice (some ⟨q, o, none⟩) kl kc, .slice va vl vc] 50)).grown G6.out (fun k hk => .inr (O4.out.lt k hk).1))
                go_roundw
                case rel => exact ⟨i' + 1 + 1, by go_num, by omega, by rw [KE.out]; exact C6.out, F6.out⟩
                case measure => simp [intOf]; omega
            · have hs1 : ¬ tailN (kA S (i' + 1)) / 256 ≤ old := by rw [← HSQ.out]; exact hs
              have hsI : ¬ (sq : Int) ≤ (old : Int) := by omega
              have KE : Hid (kept old sp S (i' + 1 + 1) = kept old sp S (i' + 1) ++ [(kA S (i' + 1), vA S (i' + 1))]) := hid (by rw [KP.out, show stay old sp S (i' + 1) = true by unfold stay seqA; simp [hu, ht1, hk1, hs1], if_pos rfl])
              go_upto_region 13 with (first | (go_at_call 21; refine RB.out.mono ?_; rintro e w3 ⟨rfl, f3⟩; have F3 := hid (HF.out.trans f3); have CRF0 := hid f3; have z3 := cell_fr f3 z1; have z4 := cell_fr f3 z2; clear f3) | (go_at_call_of 20 (Value.slice (some ⟨q2, o2, none⟩) jl jc); refine SQ.out.mono ?_; rintro e w2 ⟨rfl, h⟩; rw [h]; clear h) | (go_at_call_of 20 (Value.slice (some ⟨q, o, none⟩) kl kc); refine SP.out.mono ?_; rintro e w2 ⟨rfl, h⟩; rw [h]; clear h))
              obtain ⟨cs, o9, h9⟩ := (CR.out.keep CRF0.out (fun _ _ hx => by cases hx))
              have O4 := hid (ownsRow_fr o9 ((Fr.refl [] w3).alloc (.cells #[.slice (some ⟨q, o, none⟩) kl kc, .slice va vl vc] 50)))
              have SZ4 := hid (F3.out.alloc (.cells #[.slice (some ⟨q, o, none⟩) kl kc, .slice va vl vc] 50)).size
              have H9 := hid h9
              clear h9 o9
              go_wp2_with (at_builtin; refine wpList_appKV rfl _ _ rfl w1.heap.size SZ4.out u10 _ cs rfl O4.out w3.heap.size rfl (blk_new _ _) (by intro u hu; simp at hu; rcases hu with rfl | rfl <;> rfl) (by have := HKL.out; omega) ?_; intro v6 w6 o6 g6; have O6 := hid o6; have G6 := hid g6; clear o6 g6)
              have C6 : Hid (ColR w1 w6 w1.heap.size v6 (kept old sp S (i' + 1) ++ [(kA S (i' + 1), vA S (i' + 1))])) := hid (ColR.app (by have := O4.out.1; omega) H9.out RK.out RV.out PH.out.bk PH.out.bv' PH.out.lk PH.out.lv (by have h7 := O6.out; rw [HKL2.out, HVL2.out] at h7; exact h7))
              have F6 : Hid (Fr [] w1 w6) := hid ((F3.out.alloc (.cells #[.slice (some ⟨q, o, none⟩) kl kc, .slice va vl vc] 50)).grown G6.out (fun k hk => .inr (O4.out.lt k hk).1))
              go_roundw
              case rel => exact ⟨i' + 1 + 1, by go_num, by omega, by rw [KE.out]; exact C6.out, F6.out⟩
              case measure => simp [intOf]; omega
          · have hk1 : ¬ tailN (kA S (i' + 1)) % 256 = 0 := by rw [← HKD.out]; exact hk0
            have hk3 : ¬ ((kd : Int) = 0) := by omega
            have hk2 : ((kd : Int) == 0) = false := by rw [beq_eq_false_iff_ne]; omega
            have KE : Hid (kept old sp S (i' + 1 + 1) = kept old sp S (i' + 1) ++ [(kA S (i' + 1), vA S (i' + 1))]) := hid (by rw [KP.out, show stay old sp S (i' + 1) = true by unfold stay seqA; simp [hu, ht1, hk1], if_pos rfl])
            go_upto_region 13 with (first | (go_at_call 21; refine RB.out.mono ?_; rintro e w3 ⟨rfl, f3⟩; have F3 := hid (HF.out.trans f3); have CRF0 := hid f3; have z3 := cell_fr f3 z1; have z4 := cell_fr f3 z2; clear f3) | (go_at_call_of 20 (Value.slice (some ⟨q2, o2, none⟩) jl jc); refine SQ.out.mono ?_; rintro e w2 ⟨rfl, h⟩; rw [h]; clear h) | (go_at_call_of 20 (Value.slice (some ⟨q, o, none⟩) kl kc); refine SP.out.mono ?_; rintro e w2 ⟨rfl, h⟩; rw [h]; clear h))
            obtain ⟨cs, o9, h9⟩ := (CR.out.keep CRF0.out (fun _ _ hx => by cases hx))
            have O4 := hid (ownsRow_fr o9 ((Fr.refl [] w3).alloc (.cells #[.slice (some ⟨q, o, none⟩) kl kc, .slice va vl vc] 50)))
            have SZ4 := hid (F3.out.alloc (.cells #[.slice (some ⟨q, o, none⟩) kl kc, .slice va vl vc] 50)).size
            have H9 := hid h9
            clear h9 o9
            go_wp2_with (at_builtin; refine wpList_appKV rfl _ _ rfl w1.heap.size SZ4.out u10 _ cs rfl O4.out w3.heap.size rfl (blk_new _ _) (by intro u hu; simp at hu; rcases hu with rfl | rfl <;> rfl) (by have := HKL.out; omega) ?_; intro v6 w6 o6 g6; have O6 := hid o6; have G6 := hid g6; clear o6 g6)
            have C6 : Hid (ColR w1 w6 w1.heap.size v6 (kept old sp S (i' + 1) ++ [(kA S (i' + 1), vA S (i' + 1))])) := hid (ColR.app (by have := O4.out.1; omega) H9.out RK.out RV.out PH.out.bk PH.out.bv' PH.out.lk PH.out.lv (by have h7 := O6.out; rw [HKL2.out, HVL2.out] at h7; exact h7))
            have F6 : Hid (Fr [] w1 w6) := hid ((F3.out.alloc (.cells #[.slice (some ⟨q, o, none⟩) kl kc, .slice va vl vc] 50)).grown G6.out (fun k hk => .inr (O4.out.lt k hk).1))
            go_roundw
            case rel => exact ⟨i' + 1 + 1, by go_num, by omega, by rw [KE.out]; exact C6.out, F6.out⟩
            case measure => simp [intOf]; omega
      · have hc00 : ¬ cm = 0 := fun e => hu ((cmpN_eq _ _).1 (by rw [← HCM.out]; exact e))
        have hc01 : (cm == 0) = false := by rw [beq_eq_false_iff_ne]; exact hc00
        by_cases hk0 : kd = 0
        · have hk1 : tailN (kA S (i' + 1)) % 256 = 0 := by rw [← HKD.out]; exact hk0
          subst hk0
          rw [show ((0 : Nat) : Int) = 0 from rfl] at SP
          by_cases hs : sq ≤ old
          · have hs1 : tailN (kA S (i' + 1)) / 256 ≤ old := by rw [← HSQ.out]; exact hs
            have hsI : (sq : Int) ≤ (old : Int) := by omega
            rcases hb : ib with _ | _
            · have hb1 : inSp sp (userL (kA S (i' + 1))) = false := by rw [← HIB.out]; exact hb
              rw [hb] at INC
              have KE : Hid (kept old sp S (i' + 1 + 1) = kept old sp S (i' + 1)) := hid (by rw [KP.out, show stay old sp S (i' + 1) = false by unfold stay seqA; simp [hu, hk1, hs1, hb1], if_neg (by simp), List.append_nil])
              go_wp2_with (first | (go_at_call 19; refine (INC.out _ F3.out).mono ?_; rintro e w4 ⟨rfl, f4⟩; have F4 := hid (F3.out.trans f4); have CRF := hid (CRF0.out.trans f4); have z7 := cell_fr f4 z3; have z8 := cell_fr f4 z4; clear f4) | (go_at_call 21; refine RB.out.mono ?_; rintro e w3 ⟨rfl, f3⟩; have F3 := hid (HF.out.trans f3); have CRF0 := hid f3; have z3 := cell_fr f3 z1; have z4 := cell_fr f3 z2; clear f3) | (go_at_call_of 20 (Value.slice (some ⟨q2, o2, none⟩) jl jc); refine SQ.out.mono ?_; rintro e w2 ⟨rfl, h⟩; rw [h]; clear h) | (go_at_call_of 20 (Value.slice (some ⟨q, o, none⟩) kl kc); refine SP.out.mono ?_; rintro e w2 ⟨rfl, h⟩; rw [h]; clear h))
              go_roundw
              case rel => exact ⟨i' + 1 + 1, by go_num, by omega, by rw [KE.out]; exact (CR.out.keep CRF.out (fun _ _ hx => by cases hx)), F4.out⟩
              case measure => simp [intOf]; omega
            · have hb1 : inSp sp (userL (kA S (i' + 1))) = true := by rw [← HIB.out]; exact hb
              rw [hb] at INC
              have KE : Hid (kept old sp S (i' + 1 + 1) = kept old sp S (i' + 1) ++ [(kA S (i' + 1), vA S (i' + 1))]) := hid (by rw [KP.out, show stay old sp S (i' + 1) = true by unfold stay seqA; simp [hu, hk1, hs1, hb1], if_pos rfl])
              go_upto_region 13 with (first | (go_at_call 19; refine (INC.out _ F3.out).mono ?_; rintro e w4 ⟨rfl, f4⟩; have F4 := hid (F3.out.trans f4); have CRF := hid (CRF0.out.trans f4); have z7 := cell_fr f4 z3; have z8 := cell_fr f4 z4; clear f4) | (go_at_call 21; refine RB.out.mono ?_; rintro e w3 ⟨rfl, f3⟩; have F3 := hid (HF.out.trans f3); have CRF0 := hid f3; have z3 := cell_fr f3 z1; have z4 := cell_fr f3 z2; clear f3) | (go_at_call_of 20 (Value.slice (some ⟨q2, o2, none⟩) jl jc); refine SQ.out.mono ?_; rintro e w2 ⟨rfl, h⟩; rw [h]; clear h) | (go_at_call_of 20 (Value.slice (some ⟨q, o, none⟩) kl kc); refine SP.out.mono ?_; rintro e w2 ⟨rfl, h⟩; rw [h]; clear h))
              obtain ⟨cs, o9, h9⟩ := (CR.out.keep CRF.out (fun _ _ hx => by cases hx))
              have O4 := hid (ownsRow_fr o9 ((Fr.refl [] w4).alloc (.cells #[.slice (some ⟨q, o, none⟩) kl kc, .slice va vl vc] 50)))
              have SZ4 := hid (F4.out.alloc (.cells #[.slice (some ⟨q, o, none⟩) kl kc, .slice va vl vc] 50)).size
              have H9 := hid h9
              clear h9 o9
              go_wp2_with (at_builtin; refine wpList_appKV rfl _ _ rfl w1.heap.size SZ4.out u10 _ cs rfl O4.out w4.heap.size rfl (blk_new _ _) (by intro u hu; simp at hu; rcases hu with rfl | rfl <;> rfl) (by have := HKL.out; omega) ?_; intro v6 w6 o6 g6; have O6 := hid o6; have G6 := hid g6; clear o6 g6)
              have C6 : Hid (ColR w1 w6 w1.heap.size v6 (kept old sp S (i' + 1) ++ [(kA S (i' + 1), vA S (i' + 1))])) := hid (ColR.app (by have := O4.out.1; omega) H9.out RK.out RV.out PH.out.bk PH.out.bv' PH.out.lk PH.out.lv (by have h7 := O6.out; rw [HKL2.out, HVL2.out] at h7; exact h7))
              have F6 : Hid (Fr [] w1 w6) := hid ((F4.out.alloc (.cells #[.slice (some ⟨q, o, none⟩) kl kc, .slice va vl vc] 50)).grown G6.out (fun k hk => .inr (O4.out.lt k hk).1))
              go_roundw
              case rel => exact ⟨i' + 1 + 1, by go_num, by omega, by rw [KE.out]; exact C6.out, F6.out⟩
              case measure => simp [intOf]; omega
          · have hs1 : ¬ tailN (kA S (i' + 1)) / 256 ≤ old := by rw [← HSQ.out]; exact hs
            have hsI : ¬ (sq : Int) ≤ (old : Int) := by omega
            have KE : Hid (kept old sp S (i' + 1 + 1) = kept old sp S (i' + 1) ++ [(kA S (i' + 1), vA S (i' + 1))]) := hid (by rw [KP.out, show stay old sp S (i' + 1) = true by unfold stay seqA; simp [hu, hk1, hs1], if_pos rfl])
            go_upto_region 13 with (first | (go_at_call 21; refine RB.out.mono ?_; rintro e w3 ⟨rfl, f3⟩; have F3 := hid (HF.out.trans f3); have CRF0 := hid f3; have z3 := cell_fr f3 z1; have z4 := cell_fr f3 z2; clear f3) | (go_at_call_of 20 (Value.slice (some ⟨q2, o2, none⟩) jl jc); refine SQ.out.mono ?_; rintro e w2 ⟨rfl, h⟩; rw [h]; clear h) | (go_at_call_of 20 (Value.slice (some ⟨q, o, none⟩) kl kc); refine SP.out.mono ?_; rintro e w2 ⟨rfl, h⟩; rw [h]; clear h))
            obtain ⟨cs, o9, h9⟩ := (CR.out.keep CRF0.out (fun _ _ hx => by cases hx))
            have O4 := hid (ownsRow_fr o9 ((Fr.refl [] w3).alloc (.cells #[.slice (some ⟨q, o, none⟩) kl kc, .slice va vl vc] 50)))
            have SZ4 := hid (F3.out.alloc (.cells #[.slice (some ⟨q, o, none⟩) kl kc, .slice va vl vc] 50)).size
            have H9 := hid h9
            clear h9 o9
            go_wp2_with (at_builtin; refine wpList_appKV rfl _ _ rfl w1.heap.size SZ4.out u10 _ cs rfl O4.out w3.heap.size rfl (blk_new _ _) (by intro u hu; simp at hu; rcases hu with rfl | rfl <;> rfl) (by have := HKL.out; omega) ?_; intro v6 w6 o6 g6; have O6 := hid o6; have G6 := hid g6; clear o6 g6)
            have C6 : Hid (ColR w1 w6 w1.heap.size v6 (kept old sp S (i' + 1) ++ [(kA S (i' + 1), vA S (i' + 1))])) := hid (ColR.app (by have := O4.out.1; omega) H9.out RK.out RV.out PH.out.bk PH.out.bv' PH.out.lk PH.out.lv (by have h7 := O6.out; rw [HKL2.out, HVL2.out] at h7; exact h7))
            have F6 : Hid (Fr [] w1 w6) := hid ((F3.out.alloc (.cells #[.slice (some ⟨q, o, none⟩) kl kc, .slice va vl vc] 50)).grown G6.out (fun k hk => .inr (O4.out.lt k hk).1))
            go_roundw
            case rel => exact ⟨i' + 1 + 1, by go_num, by omega, by rw [KE.out]; exact C6.out, F6.out⟩
            case measure => simp [intOf]; omega
        · have hk1 : ¬ tailN (kA S (i' + 1)) % 256 = 0 := by rw [← HKD.out]; exact hk0
          have hk3 : ¬ ((kd : Int) = 0) := by omega
          have hk2 : ((kd : Int) == 0) = false := by rw [beq_eq_false_iff_ne]; omega
          have KE : Hid (kept old sp S (i' + 1 + 1) = kept old sp S (i' + 1) ++ [(kA S (i' + 1), vA S (i' + 1))]) := hid (by rw [KP.out, show stay old sp S (i' + 1) = true by unfold stay seqA; simp [hu, hk1], if_pos rfl])
          go_upto_region 13 with (first | (go_at_call 21; refine RB.out.mono ?_; rintro e w3 ⟨rfl, f3⟩; have F3 := hid (HF.out.trans f3); have CRF0 := hid f3; have z3 := cell_fr f3 z1; have z4 := cell_fr f3 z2; clear f3) | (go_at_call_of 20 (Value.slice (some ⟨q2, o2, none⟩) jl jc); refine SQ.out.mono ?_; rintro e w2 ⟨rfl, h⟩; rw [h]; clear h) | (go_at_call_of 20 (Value.slice (some ⟨q, o, none⟩) kl kc); refine SP.out.mono ?_; rintro e w2 ⟨rfl, h⟩; rw [h]; clear h))
          obtain ⟨cs, o9, h9⟩ := (CR.out.keep CRF0.out (fun _ _ hx => by cases hx))
          have O4 := hid (ownsRow_fr o9 ((Fr.refl [] w3).alloc (.cells #[.slice (some ⟨q, o, none⟩) kl kc, .slice va vl vc] 50)))
          have SZ4 := hid (F3.out.alloc (.cells #[.slice (some ⟨q, o, none⟩) kl kc, .slice va vl vc] 50)).size
          have H9 := hid h9
          clear h9 o9
          go_wp2_with (at_builtin; refine wpList_appKV rfl _ _ rfl w1.heap.size SZ4.out u10 _ cs rfl O4.out w3.heap.size rfl (blk_new _ _) (by intro u hu; simp at hu; rcases hu with rfl | rfl <;> rfl) (by have := HKL.out; omega) ?_; intro v6 w6 o6 g6; have O6 := hid o6; have G6 := hid g6; clear o6 g6)
          have C6 : Hid (ColR w1 w6 w1.heap.size v6 (kept old sp S (i' + 1) ++ [(kA S (i' + 1), vA S (i' + 1))])) := hid (ColR.app (by have := O4.out.1; omega) H9.out RK.out RV.out PH.out.bk PH.out.bv' PH.out.lk PH.out.lv (by have h7 := O6.out; rw [HKL2.out, HVL2.out] at h7; exact h7))
          have F6 : Hid (Fr [] w1 w6) := hid ((F3.out.alloc (.cells #[.slice (some ⟨q, o, none⟩) kl kc, .slice va vl vc] 50)).grown G6.out (fun k hk => .inr (O4.out.lt k hk).1))
          go_roundw
          case rel => exact ⟨i' + 1 + 1, by go_num, by omega, by rw [KE.out]; exact C6.out, F6.out⟩
          case measure => simp [intOf]; omega
    · have hin : i = n := by omega
      have RKE : Hid (RdK wr u10 (kept old sp S S.length)) := hid (by rw [← HN.out, ← hin]; exact CR.out.rd HF.out)
      have hlt' : ¬ (i : Int) < (n : Int) := by omega
      clear CR
      go_wp2
      go_ret2
      exact ⟨.inl ⟨S, _, RI.out, MG.out, rfl, RKE.out⟩, F1.out.trans HF.out⟩
end Go.Proofs.Ythmlpjogbdpgiaa
