/-
  The document's Sorted.
-/
import Derived.Test.YthmlpjogbdpgiaaCT8
namespace Go.Proofs.Ythmlpjogbdpgiaa
open Go.ChangeShapes Go.WideShapes Go.ChangeAt Go.RowKit

set_option maxRecDepth 20000 in
set_option maxHeartbeats 12800000 in
theorem sorted_c (w : World) {lv : Value} {LL : List Ps} (h : RdLL w lv LL) (hn : LL.length ≤ 100000) (hf : LL.flatten.length ≤ 1000000) :
    Calls Try.prog 18 #[lv] w fun e w' => SoO w w' LL e ∧ Fr [] w w' := by
  obtain ⟨la, lc, rfl, hlc, k1⟩ := h
  have H1 := hid k1
  obtain ⟨n, hnn⟩ : ∃ n, n = LL.length := ⟨_, rfl⟩
  have HN := hid hnn
  rw [← hnn] at hn hlc ⊢
  clear k1 hnn
  have hfl : ∀ p ∈ LL, p.length ≤ 1000000 := fun p hp => by
    have : p.length ≤ LL.flatten.length := (List.sublist_flatten_of_mem hp).length_le
    omega
  have HFL := hid hfl
  clear hfl
  have MK := makeI_run w (n := n) (by omega)
  have MO := hid (makeI_own w (n := n) (by omega))
  obtain ⟨W1, hW1⟩ : ∃ W1, W1 = w.alloc (.cells (madeCells #[.int .i64 0] n) 3) := ⟨_, rfl⟩
  have F1 : Hid (Fr [] w W1) := hid (by rw [hW1]; exact (Fr.refl _ _).alloc _)
  rw [← hW1] at MK MO
  clear hW1
  go_enter Try.func18, Try.ntmps18
  go_upto_region 2 with fail
  clear MK
  go_wp2_with fail
  go_loopw [5] (fun v5 wr => ∃ i : Nat, v5 = .int .i64 (i : Int) ∧ i ≤ n ∧ (∀ p ∈ LL.take i, Rises p) ∧ Fr [] W1 wr) (fun v5 _ => n - (intOf v5).toNat)
  case atStart => exact ⟨0, rfl, Nat.zero_le _, (fun p hp => by simp at hp), Fr.refl _ _⟩
  case round =>
    obtain ⟨i, rfl, hi, ri, f1⟩ := hrel
    have RI := hid ri
    have F1r := hid f1
    clear ri f1
    by_cases hlt : i < n
    · obtain ⟨p, hp⟩ : ∃ p, LL[i]? = some p := ⟨_, List.getElem?_eq_getElem (by rw [← HN.out]; exact hlt)⟩
      obtain ⟨b, off, rfl, m⟩ := H1.out (by rw [← HN.out]; omega)
      obtain ⟨ua, uc, z0, rk⟩ := m i p hp
      have fw := F1.out.trans F1r.out
      have z1 := cell_fr fw z0
      have CR := hid (rrises_c wr (rk.fr fw) (HFL.out p (List.mem_of_getElem? hp)))
      have HP := hid hp
      have hlt' : (i : Int) < (n : Int) := by omega
      generalize p.length = pl at z1 CR
      clear m rk hp z0 fw
      go_upto_if 24 with (go_at_call 23; refine CR.out.mono ?_; rintro e w2 ⟨hq, f2⟩; rcases hq with ⟨rfl, hr⟩ | ⟨rfl, hr⟩)
      · have RI2 : Hid (∀ q ∈ LL.take (i + 1), Rises q) := hid (fun q hq => by
          rw [take_oneL HP.out] at hq
          rcases List.mem_append.1 hq with h | h
          · exact RI.out q h
          · rw [List.mem_singleton] at h; rw [h]; exact hr)
        have F2 := hid (F1r.out.trans f2)
        clear hr f2
        go_wp2
        go_roundw
        case rel => exact ⟨i + 1, by go_num, by omega, RI2.out, F2.out⟩
        case measure => simp [intOf]; omega
      · have HNR : Hid (∃ p ∈ LL, ¬ Rises p) := hid ⟨p, List.mem_of_getElem? HP.out, hr⟩
        have F2 := hid ((F1.out.trans F1r.out).trans f2)
        clear hr f2
        go_wp2
        go_ret2
        exact ⟨.inr ⟨.inl HNR.out, rfl⟩, F2.out⟩
    · have hin : i = n := by omega
      have RIA : Hid (∀ p ∈ LL, Rises p) := hid (by have := RI.out; rwa [List.take_of_length_le (by rw [← HN.out]; omega)] at this)
      have hlt' : ¬ (i : Int) < (n : Int) := by omega
      subst hin
      obtain ⟨wo, hwo⟩ : ∃ W, W = wr := ⟨_, rfl⟩
      subst hwo
      have S0 : Hid (SoI w wo w.heap.size i LL LL.flatten (.slice none 0 0) LL (fun _ => 0) []) := hid
        ⟨F1.out.trans F1r.out, ownsRow_fr MO.out F1r.out, ColR.nil _ _ _, HN.out.symm, fun j p hp => ⟨by rw [hp]; rfl, Nat.zero_le _⟩, MI.start _, by simp, (fun t ht => by cases ht), (fun t ht => by cases ht)⟩
      clear RI MO
      go_wp2_with fail
      go_loopw [6] (fun v6 wr => ∃ (rs : List Ps) (ix : Nat → Nat) (T : Ps), SoI w wr w.heap.size i LL LL.flatten v6 rs ix T) (fun v6 _ => LL.flatten.length + 1 - lenV v6)
      case atStart => exact ⟨_, _, _, S0.out⟩
      case round =>
        obtain ⟨rs, ix, T, so⟩ := hrel
        have SO := hid so
        clear so S0
        obtain ⟨wp, hwp⟩ : ∃ W, W = wr := ⟨_, rfl⟩
        subst hwp
        go_wp2_with fail
        go_loopw [7, 8] (fun v7 v8 wr => ∃ j : Nat, v8 = .int .i64 (j : Int) ∧ j ≤ i ∧ BestI rs j v7 ∧ Fr [] wp wr) (fun _ v8 _ => i - (intOf v8).toNat)
        case atStart => exact ⟨0, rfl, Nat.zero_le _, .inl ⟨rfl, fun j hj => absurd hj (Nat.not_lt_zero _)⟩, Fr.refl _ _⟩
        case round =>
          obtain ⟨j, rfl, hj, bi, f1⟩ := hrel
          have BI := hid bi
          have F2r := hid f1
          have SOR := hid (SO.out.draw f1)
          clear bi f1
          by_cases hlt2 : j < i
          · obtain ⟨b, off, rfl, m⟩ := H1.out (by rw [← HN.out]; omega)
            have HM := hid m
            obtain ⟨p, ua, uc, hp, z1, z2, hh⟩ := SOR.out.head m RIA.out HN.out hlt2
            clear m
            have HP := hid hp
            have hlt3 : (j : Int) < (i : Int) := by omega
            clear hp
            rcases hh with ⟨he, hr⟩ | ⟨hlt4, x, ub, uo, ka, kc, va, vc, hr, rfl, hpu, P, hk, hri⟩
            · rw [he] at z2
              generalize p.length = pl at *
              have BI2 : Hid (BestI rs (j + 1) u7) := hid (BI.out.skip hr)
              have trivialBI := hid trivial
              clear trivialBI
              clear he
              go_upto_region 12 with fail
              go_quiet (fail)
              go_wp2
              go_roundw
              case rel => exact ⟨j + 1, by go_num, by omega, BI2.out, F2r.out.drewN nq⟩
              case measure => simp [intOf]; omega
            · have PY := hid P
              have KY := hid hk
              have HRY := hid hr
              have hne : ¬ ((ix j : Int) = (p.length : Int)) := by omega
              have hne2 : ((ix j : Int) == (p.length : Int)) = false := by rw [beq_eq_false_iff_ne]; exact hne
              have hpl : p.length ≤ 1000000 := HFL.out p (List.mem_of_getElem? HP.out)
              have hix : (ix j : Int) < (p.length : Int) := by omega
              generalize hpk : p.drop (ix j + 1) = py at HRY
              clear hpk hr P hk hri
              generalize ix j = xj at z2 PY hne hne2 hlt4 hix
              generalize p.length = pl at z1 hpu hne hne2 hpl hlt4 hix
              go_upto_region 12 with fail
              go_quiet (fail)
              obtain ⟨wq, hwq⟩ : ∃ W, W = wr.drewN nq := ⟨_, rfl⟩
              rw [← hwq]
              have FQ : Hid (Fr [] wr wq) := hid (by rw [hwq]; exact (Fr.refl _ _).drewN _)
              clear hwq
              have z3 := cell_fr FQ.out z1
              have z4 := cell_fr FQ.out z2
              have SOQ := hid (SOR.out.draw FQ.out)
              have F3 := hid (F2r.out.trans FQ.out)
              obtain ⟨kl, hkl⟩ : ∃ q, q = x.1.length := ⟨_, rfl⟩
              have HKL := hid hkl
              have z5 := cell_fr SOQ.out.fr PY.out.ck
              rw [← hkl] at z5
              clear hkl z1 z2
              rcases BI.out with ⟨rfl, hall⟩ | ⟨bb, z, r, rfl, hbb, h0, hmin⟩
              · have BI2 := hid (BestI.first hall HRY.out)
                clear hall
                go_wp2_with fail
                go_quiet (fail)
                go_wp2
                go_roundw
                case rel => exact ⟨j + 1, by go_num, by omega, BI2.out, F3.out.drewN nq⟩
                case measure => simp [intOf]; omega
              · have H0B := hid h0
                have MINB := hid hmin
                obtain ⟨pb, uab, ucb, hpb, y1, y2, hh⟩ := SOQ.out.head HM.out RIA.out HN.out (Nat.lt_trans hbb hlt2)
                rcases hh with ⟨_, hr0⟩ | ⟨hltb, x', ubb, uob, kab, kcb, vab, vcb, hrb, rfl, hpub, PB, hkb, hrib⟩
                · rw [h0] at hr0; cases hr0
                rw [h0] at hrb
                simp only [Option.some.injEq, List.cons.injEq] at hrb
                obtain ⟨rfl, _⟩ := hrb
                have y3 := cell_fr SOQ.out.fr PB.ck
                have HOR := hid (fun m : Nat => order_q (wq.drewN m) ((PY.out.rk.fr SOQ.out.fr).fr ((Fr.refl [] wq).drewN m)) PY.out.bk KY.out ((PB.rk.fr SOQ.out.fr).fr ((Fr.refl [] wq).drewN m)) PB.bk hkb)
                rw [← HKL.out] at HOR
                have hpbl : pb.length ≤ 1000000 := HFL.out pb (List.mem_of_getElem? hpb)
                have hb0 : ¬ ((bb : Int) < 0) := by omega
                have hb1 : (bb : Int) < (i : Int) := by omega
                have hxb : (ix bb : Int) < (pb.length : Int) := by omega
                generalize ix bb = xb at y2 y3 hltb hxb
                generalize pb.length = pbl at y1 hpub hpbl hltb hxb
                generalize z.1.length = zl at y3 HOR
                obtain ⟨od, hod⟩ : ∃ q, q = ordK x.1 z.1 := ⟨_, rfl⟩
                rw [← hod] at HOR
                have HOD := hid hod
                clear h0 hmin PB hkb hrib hpb hod
                by_cases hneg : od < 0
                · have BI2 := hid (BestI.less MINB.out HRY.out (by rw [← HOD.out]; exact hneg))
                  go_wp2_with fail
                  go_quiet ((go_at_call 34; exact Calls.quiet_of (HOR.out _)))
                  go_wp2
                  go_roundw
                  case rel => exact ⟨j + 1, by go_num, by omega, BI2.out, F3.out.drewN nq⟩
                  case measure => simp [intOf]; omega
                · have BI2 := hid (BestI.more hbb H0B.out MINB.out HRY.out (by rw [← HOD.out]; exact hneg))
                  go_wp2_with fail
                  go_quiet ((go_at_call 34; exact Calls.quiet_of (HOR.out _)))
                  go_wp2
                  go_roundw
                  case rel => exact ⟨j + 1, by go_num, by omega, BI2.out, F3.out.drewN nq⟩
                  case measure => simp [intOf]; omega
          · have hje : j = i := by omega
            have hlt3 : ¬ (j : Int) < (i : Int) := by omega
            subst hje
            obtain ⟨we, hwe⟩ : ∃ W, W = wr := ⟨_, rfl⟩
            subst hwe
            rcases BI.out with ⟨rfl, hall⟩ | ⟨bb, x, r, rfl, hbb, h0, hmin⟩
            · have NIL : Hid (rs.flatten = []) := hid (by
                rw [List.flatten_eq_nil_iff]
                intro q hq
                obtain ⟨k, hk⟩ := List.getElem?_of_mem hq
                have hkl := (List.getElem?_eq_some_iff.1 hk).1
                rw [SOR.out.rl] at hkl
                exact hall k hkl q hk)
              have DONE : Hid (MgS LL.flatten T) := hid (by have := SOR.out.mi; rw [NIL.out] at this; exact this.done)
              clear hall
              go_wp2
              go_ret2
              exact ⟨.inl ⟨T, _, RIA.out, DONE.out, rfl, SOR.out.out, SOR.out.ik⟩, SOR.out.fr⟩
            · have H0B := hid h0
              have MINB := hid hmin
              obtain ⟨b, off, rfl, m⟩ := H1.out (by rw [← HN.out]; omega)
              obtain ⟨pb, uab, ucb, hpb, y1, y2, hh⟩ := SOR.out.head m RIA.out HN.out hbb
              rcases hh with ⟨_, hr0⟩ | ⟨hltb, x', ub, uo, ka, kc, va, vc, hrb, rfl, hpub, PB, hkb, hrib⟩
              · rw [h0] at hr0; cases hr0
              rw [h0] at hrb
              simp only [Option.some.injEq, List.cons.injEq] at hrb
              obtain ⟨rfl, _⟩ := hrb
              have y3 := cell_fr SOR.out.fr PB.ck
              have y4 := cell_fr SOR.out.fr PB.cv
              have PX := hid PB
              have KX := hid hkb
              have hpbl : pb.length ≤ 1000000 := HFL.out pb (List.mem_of_getElem? hpb)
              have hb0 : ¬ ((bb : Int) < 0) := by omega
              have hb1 : (bb : Int) < (j : Int) := by omega
              have hxb : (ix bb : Int) < (pb.length : Int) := by omega
              obtain ⟨xb, hxb9⟩ : ∃ q, q = ix bb := ⟨_, rfl⟩
              have HXB := hid hxb9
              rw [← hxb9] at y2 y3 y4 hltb hxb
              obtain ⟨pl, hpl9⟩ : ∃ q, q = pb.length := ⟨_, rfl⟩
              rw [← hpl9] at y1 hpub hpbl hltb hxb
              obtain ⟨kl, hkl⟩ : ∃ q, q = x.1.length := ⟨_, rfl⟩
              have HKL := hid hkl
              obtain ⟨vl, hvl⟩ : ∃ q, q = x.2.length := ⟨_, rfl⟩
              have HVL := hid hvl
              rw [← hkl] at y3
              rw [← hvl] at y4
              have SK : Hid (∀ wx, Fr [] we wx → wx.cell? ⟨b, off + bb, none⟩ = some (.slice (some ⟨ub, uo, none⟩) pl ucb) ∧ wx.cell? ⟨w.heap.size, bb, none⟩ = some (.int .i64 (xb : Int)) ∧ wx.cell? ⟨ub, uo + xb * 2, none⟩ = some (.slice ka kl kc) ∧ wx.cell? ⟨ub, uo + xb * 2 + 1, none⟩ = some (.slice va vl vc)) := hid (fun wx f => ⟨cell_fr f y1, cell_fr f y2, cell_fr f y3, cell_fr f y4⟩)
              clear m h0 hmin PB hkb hrib hpb hxb9 hpl9 hkl hvl y1 y2 y3 y4
              go_wp2_with fail
              refine wp_region_held_drew (S := fun w' => Fr [] we w') (by kernel_rfl) (Fr.refl [] we).drew (fun hS => ?_)
              refine wpAnyH_take (i := 0) (v := .slice (some ⟨b, off, none⟩) j lc) rfl (by kernel_rfl) (by kernel_rfl) (by kernel_rfl) (fun _ _ _ h => h) (.inl ⟨by rfl, fun wx _ => by go_simp⟩) hS ?_
              simp only [Act.put]
              refine wpAnyH_take (i := 1) (v := .int .i64 (bb : Int)) rfl (by kernel_rfl) (by kernel_rfl) (by kernel_rfl) (fun _ _ _ h => h) (.inl ⟨by rfl, fun wx _ => by go_simp⟩) hS ?_
              simp only [Act.put]
              refine wpAnyH_take (i := 2) (v := .pointer (some ⟨b, off + bb, none⟩)) rfl (by kernel_rfl) (by kernel_rfl) (by kernel_rfl) (fun _ _ _ h => h) (.inl ⟨by rfl, fun wx _ => by go_simp⟩) hS ?_
              simp only [Act.put]
              refine wpAnyH_take (i := 3) (v := .slice (some ⟨ub, uo, none⟩) pl ucb) rfl (by kernel_rfl) (by kernel_rfl) (by kernel_rfl) (fun _ _ _ h => h) (.inl ⟨by rfl, fun wx hX => by obtain ⟨x0, x1, x2, x3⟩ := SK.out wx hX; go_simp⟩) hS ?_
              simp only [Act.put]
              refine wpAnyH_take (i := 4) (v := .slice (some ⟨w.heap.size, 0, none⟩) j j) rfl (by kernel_rfl) (by kernel_rfl) (by kernel_rfl) (fun _ _ _ h => h) (.inl ⟨by rfl, fun wx _ => by go_simp⟩) hS ?_
              simp only [Act.put]
              refine wpAnyH_take (i := 5) (v := .int .i64 (bb : Int)) rfl (by kernel_rfl) (by kernel_rfl) (by kernel_rfl) (fun _ _ _ h => h) (.inl ⟨by rfl, fun wx _ => by go_simp⟩) hS ?_
              simp only [Act.put]
              refine wpAnyH_take (i := 6) (v := .pointer (some ⟨w.heap.size, bb, none⟩)) rfl (by kernel_rfl) (by kernel_rfl) (by kernel_rfl) (fun _ _ _ h => h) (.inl ⟨by rfl, fun wx _ => by go_simp⟩) hS ?_
              simp only [Act.put]
              refine wpAnyH_take (i := 7) (v := .int .i64 (xb : Int)) rfl (by kernel_rfl) (by kernel_rfl) (by kernel_rfl) (fun _ _ _ h => h) (.inl ⟨by rfl, fun wx hX => by obtain ⟨x0, x1, x2, x3⟩ := SK.out wx hX; go_simp⟩) hS ?_
              simp only [Act.put]
              refine wpAnyH_take (i := 8) (v := .pointer (some ⟨ub, uo + xb * 2, none⟩)) rfl (by kernel_rfl) (by kernel_rfl) (by kernel_rfl) (fun _ _ _ h => h) (.inl ⟨by rfl, fun wx _ => by go_simp⟩) hS ?_
              simp only [Act.put]
              refine wpAnyH_take (i := 9) (v := .agg #[.slice ka kl kc, .slice va vl vc]) rfl (by kernel_rfl) (by kernel_rfl) (by kernel_rfl) (fun _ _ _ h => h) (.inl ⟨by rfl, fun wx hX => by obtain ⟨x0, x1, x2, x3⟩ := SK.out wx hX; go_simp⟩) hS ?_
              simp only [Act.put]
              clear hS
              refine wpAnyH_ready (rs := [10]) (by kernel_rfl) (by simp) ?_
              refine AllReadyH.cons rfl (fun K hK => ?_) AllReadyH.nil
              go_simp
              refine hK.out _ _ ((Fr.refl [] we).drew.alloc _) (fun _ => ?_)
              clear hK K
              refine wpAnyH_ready (rs := [11]) (by kernel_rfl) (by simp) ?_
              refine AllReadyH.cons rfl (fun K hK => ?_) AllReadyH.nil
              go_simp
              refine hK.out _ _ ((Fr.refl [] we).alloc _).drew (fun _ => ?_)
              clear hK K
              refine wpAnyH_done (by kernel_rfl) ?_ _
              obtain ⟨W2, hW2⟩ : ∃ W, W = (we.alloc (.cells #[.slice ka kl kc, .slice va vl vc] 50)).drew := ⟨_, rfl⟩
              rw [← hW2]
              have F2 : Hid (Fr [] we W2) := hid (by rw [hW2]; exact ((Fr.refl _ _).alloc _).drew)
              have X2 : Hid (W2.heap[we.heap.size]? = some (.cells #[.slice ka kl kc, .slice va vl vc] 50 (0, 0))) := hid (by rw [hW2]; exact blk_new _ _)
              clear hW2 SK
              have RKX : Hid (Rd w (.slice ka kl kc) (bv x.1)) := hid (by rw [HKL.out]; exact PX.out.rk)
              have RVX : Hid (Rd w (.slice va vl vc) (bv x.2)) := hid (by rw [HVL.out]; exact PX.out.rv)
              obtain ⟨cs6, o6, h6⟩ := SOR.out.out
              obtain ⟨a6, c6, rfl, hc6⟩ := ownsRow_slice o6
              have O6 := hid o6
              have H6 := hid h6
              clear o6 h6
              have hTl : T.length ≤ 1000000 := by have := SOR.out.ln; omega
              by_cases hT : T.length = 0
              · have hTn : T = [] := List.eq_nil_of_length_eq_zero hT
                have HL : Hid (∀ t, T.getLast? = some t → ordK t.1 x.1 ≠ 0) := hid (fun t ht => by rw [hTn] at ht; cases ht)
                rw [hT] at O6 hc6 ⊢
                clear hTn
                go_wp2_with fail
                go_quiet (fail)
                obtain ⟨W3, hW3⟩ : ∃ W, W = W2.drewN nq := ⟨_, rfl⟩
                rw [← hW3]
                have F23 : Fr [] W2 W3 := by rw [hW3]; exact (Fr.refl _ _).drewN _
                have F3 := hid (F2.out.trans F23)
                have y0 := blk_cell (F23.at X2.out (by simp)) 0
                have y1 := blk_cell (F23.at X2.out (by simp)) 1
                simp at y0 y1
                have O4 := hid (ownsRow_fr O6.out (F3.out.alloc (.cells #[.slice ka kl kc, .slice va vl vc] 50)))
                have SZ4 := hid ((SOR.out.fr.trans F3.out).alloc (.cells #[.slice ka kl kc, .slice va vl vc] 50)).size
                clear hW3 F23
                go_upto_region 21 with (at_builtin; refine wpList_appKV rfl _ _ rfl w.heap.size SZ4.out (.slice a6 0 c6) _ cs6 rfl O4.out W3.heap.size rfl (blk_new _ _) (by intro u hu; simp at hu; rcases hu with rfl | rfl <;> rfl) (by omega) ?_; intro v6 w6 o6 g6; have O7 := hid o6; have G6 := hid g6; clear o6 g6)
                have f6 : Fr (Value.slice a6 T.length c6).ownBlock.toList we w6 := by rw [hT]; exact ((F3.out.alloc (.cells #[.slice ka kl kc, .slice va vl vc] 50)).mono (by simp)).grown G6.out (fun q hq => .inl (by rw [hq]; simp))
                obtain ⟨cur6, hcur6, zg⟩ := SOR.out.gblk hbb f6
                have zf := blk_frozen hcur6 bb
                have CR6 : ColR w w6 w.heap.size v6 (T ++ [x]) := ColR.app (by have := O6.out.1; omega) H6.out (by rw [← HKL.out]; exact RKX.out) (by rw [← HVL.out]; exact RVX.out) PX.out.bk PX.out.bv' PX.out.lk PX.out.lv (by have h7 := O7.out; rw [HKL.out, HVL.out] at h7; rw [hT]; exact h7)
                have S7 := SOR.out.step RIA.out HN.out hbb H0B.out MINB.out HL.out PX.out.bk PX.out.bv' KX.out f6 CR6
                have LN7 : Hid (T.length < LL.flatten.length) := hid (by have := S7.ln; rw [List.length_append, List.length_singleton] at this; omega)
                have hx1 : ((ix bb + 1 : Nat) : Int) = (xb : Int) + 1 := by rw [HXB.out]; omega
                rw [hx1] at S7
                rw [← HXB.out] at zg
                obtain ⟨a7, c7, rfl, _⟩ := ownsRow_slice O7.out
                have S8 := hid S7
                clear S7 CR6 hx1
                go_wp2
                go_roundw
                case rel => exact ⟨_, _, _, S8.out⟩
                case measure => have := LN7.out; simp [lenV]; omega
              · obtain ⟨q, hq⟩ : ∃ q, T.length = q + 1 := ⟨T.length - 1, by omega⟩
                have RT := SOR.out.out.rd SOR.out.fr
                obtain ⟨b6', c6', e6, _, k6⟩ := RT
                simp only [Value.slice.injEq, true_and] at e6
                obtain ⟨rfl, rfl⟩ := e6
                obtain ⟨g6, o6, rfl, m6⟩ := k6 (by omega)
                have hql : q < T.length := by omega
                obtain ⟨la, lc9, lv9, lw9, PL⟩ := m6 q _ (ps_at hql)
                have HLT : Hid (T.getLast? = some (kA T q, vA T q)) := hid (by rw [List.getLast?_eq_getElem?, hq]; exact ps_at hql)
                have y5 := cell_fr F2.out PL.ck
                dsimp only at y5
                have y6 := blk_cell X2.out 0
                simp at y6
                have HKT := hid (SOR.out.ik _ (List.mem_of_getElem? (ps_at hql)))
                have HOR := hid (fun m : Nat => order_q (W2.drewN m) ((PL.rk.fr F2.out).fr ((Fr.refl [] W2).drewN m)) PL.bk HKT.out ((RKX.out.fr (SOR.out.fr.trans F2.out)).fr ((Fr.refl [] W2).drewN m)) PX.out.bk KX.out)
                generalize hll : (kA T q).length = ll at y5 HOR
                obtain ⟨od, hod⟩ : ∃ o, o = ordK (kA T q) x.1 := ⟨_, rfl⟩
                rw [← hod] at HOR
                have HOD := hid hod
                have hsub : IntKind.i64.wrap ((q : Int) + 1 - 1) = (q : Int) := by rw [IntKind.wrap_i64]; omega
                have hpos : (0 : Int) < (q : Int) + 1 := by omega
                have hqi : (q : Int) < (q : Int) + 1 := by omega
                rw [hq] at O6 hc6 hTl ⊢
                clear m6 k6 PL hll hod
                by_cases h9 : od = 0
                · have NOS : Hid (∀ S, ¬ MgS LL.flatten S) := hid (SOR.out.mi.stop (flat_set H0B.out) HLT.out (by show ordK (kA T q) x.1 = 0; rw [← HOD.out]; exact h9))
                  subst h9
                  go_wp2_with fail
                  go_quiet ((go_at_call 34; exact Calls.quiet_of (HOR.out _)))
                  go_wp2
                  go_ret2
                  exact ⟨.inr ⟨.inr NOS.out, rfl⟩, (SOR.out.fr.trans F2.out).drewN nq⟩
                · have HL : Hid (∀ t, T.getLast? = some t → ordK t.1 x.1 ≠ 0) := hid (fun t ht => by rw [HLT.out] at ht; cases ht; show ordK (kA T q) x.1 ≠ 0; rw [← HOD.out]; exact h9)
                  have h9' : (od == 0) = false := by rw [beq_eq_false_iff_ne]; exact h9
                  go_wp2_with fail
                  go_quiet ((go_at_call 34; exact Calls.quiet_of (HOR.out _)))
                  obtain ⟨W3, hW3⟩ : ∃ W, W = W2.drewN nq := ⟨_, rfl⟩
                  rw [← hW3]
                  have F23 : Fr [] W2 W3 := by rw [hW3]; exact (Fr.refl _ _).drewN _
                  have F3 := hid (F2.out.trans F23)
                  have y0 := blk_cell (F23.at X2.out (by simp)) 0
                  have y1 := blk_cell (F23.at X2.out (by simp)) 1
                  simp at y0 y1
                  have O4 := hid (ownsRow_fr O6.out (F3.out.alloc (.cells #[.slice ka kl kc, .slice va vl vc] 50)))
                  have SZ4 := hid ((SOR.out.fr.trans F3.out).alloc (.cells #[.slice ka kl kc, .slice va vl vc] 50)).size
                  clear hW3 F23
                  go_upto_region 21 with (at_builtin; refine wpList_appKV rfl _ _ rfl w.heap.size SZ4.out (.slice (some ⟨g6, o6, none⟩) (q + 1) c6) _ cs6 rfl O4.out W3.heap.size rfl (blk_new _ _) (by intro u hu; simp at hu; rcases hu with rfl | rfl <;> rfl) (by omega) ?_; intro v6 w6 o6 g6; have O7 := hid o6; have G6 := hid g6; clear o6 g6)
                  have f6 : Fr (Value.slice (some ⟨g6, o6, none⟩) T.length c6).ownBlock.toList we w6 := by rw [hq]; exact ((F3.out.alloc (.cells #[.slice ka kl kc, .slice va vl vc] 50)).mono (by simp)).grown G6.out (fun q hq => .inl (by rw [hq]; simp))
                  obtain ⟨cur6, hcur6, zg⟩ := SOR.out.gblk hbb f6
                  have zf := blk_frozen hcur6 bb
                  have CR6 : ColR w w6 w.heap.size v6 (T ++ [x]) := ColR.app (by have := O6.out.1; omega) H6.out (by rw [← HKL.out]; exact RKX.out) (by rw [← HVL.out]; exact RVX.out) PX.out.bk PX.out.bv' PX.out.lk PX.out.lv (by have h7 := O7.out; rw [HKL.out, HVL.out] at h7; rw [hq]; exact h7)
                  have S7 := SOR.out.step RIA.out HN.out hbb H0B.out MINB.out HL.out PX.out.bk PX.out.bv' KX.out f6 CR6
                  have LN7 : Hid (T.length < LL.flatten.length) := hid (by have := S7.ln; rw [List.length_append, List.length_singleton] at this; omega)
                  have hx1 : ((ix bb + 1 : Nat) : Int) = (xb : Int) + 1 := by rw [HXB.out]; omega
                  rw [hx1] at S7
                  rw [← HXB.out] at zg
                  obtain ⟨a7, c7, rfl, _⟩ := ownsRow_slice O7.out
                  have S8 := hid S7
                  clear S7 CR6 hx1
                  go_wp2
                  go_roundw
                  case rel => exact ⟨_, _, _, S8.out⟩
                  case measure => have := LN7.out; rw [List.length_flatten] at this; simp [lenV]; omega
end Go.Proofs.Ythmlpjogbdpgiaa
