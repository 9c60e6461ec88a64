/-
  CompactKeeps, walked.
-/
import Derived.Test.YthmlpjogbdpgiaaJ37
import Derived.Test.YthmlpjogbdpgiaaJ41
import Derived.ArgAppend
namespace Go.Proofs.Ythmlpjogbdpgiaa
open Go.ChangeShapes Go.WideShapes Go.ChangeAt Go.RowKit

theorem ColO.entries {W : World} {B : Nat} {ps : Ps} {cs : List Value} (h : ∀ (j : Nat) (p : List Nat × List Nat), ps[j]? = some p → ∃ kv vv, cs[j * 2]? = some kv ∧ cs[j * 2 + 1]? = some vv ∧ W.ownsRow B 5 1 kv p.1.length (bv p.1) ∧ W.ownsRow B 5 1 vv p.2.length (bv p.2) ∧ By p.1 ∧ By p.2 ∧ p.1.length ≤ 140737488355328 ∧ p.2.length ≤ 140737488355328) :
    ∀ (j : Nat) (p : List Nat × List Nat), ps[j]? = some p → ∃ ka kc va vc, cs[j * 2]? = some (.slice ka p.1.length kc) ∧ cs[j * 2 + 1]? = some (.slice va p.2.length vc) ∧ Rd W (.slice ka p.1.length kc) (bv p.1) ∧ Rd W (.slice va p.2.length vc) (bv p.2) ∧ By p.1 ∧ By p.2 ∧ p.1.length ≤ 140737488355328 ∧ p.2.length ≤ 140737488355328 := fun j p hj => by
  obtain ⟨kv, vv, c0, c1, r0, r1, b0, b1, l0, l1⟩ := h j p hj
  obtain ⟨ka, kc, rfl, _⟩ := ownsRow_slice r0
  obtain ⟨va, vc, rfl, _⟩ := ownsRow_slice r1
  exact ⟨ka, kc, va, vc, c0, c1, Rd.ownB r0, Rd.ownB r1, b0, b1, l0, l1⟩
/-- A row with one entry more can be read. -/
theorem rdk_app {w0 W' : World} {B : Nat} {v' : Value} {ps : Ps} {p : List Nat × List Nat} {cs : List Value} {ka va : Option Addr} {kc vc : Nat} (f : Fr [] w0 W') (hcl : cs.length = ps.length * 2)
    (h : ∀ (j : Nat) (p : List Nat × List Nat), ps[j]? = some p → ∃ ka kc va vc, cs[j * 2]? = some (.slice ka p.1.length kc) ∧ cs[j * 2 + 1]? = some (.slice va p.2.length vc) ∧ Rd w0 (.slice ka p.1.length kc) (bv p.1) ∧ Rd w0 (.slice va p.2.length vc) (bv p.2) ∧ By p.1 ∧ By p.2 ∧ p.1.length ≤ 140737488355328 ∧ p.2.length ≤ 140737488355328)
    (rk : Rd W' (.slice ka p.1.length kc) (bv p.1)) (rv : Rd W' (.slice va p.2.length vc) (bv p.2)) (bk : By p.1) (bw : By p.2) (lk : p.1.length ≤ 140737488355328) (lv : p.2.length ≤ 140737488355328)
    (o' : W'.ownsRow B 50 2 v' (ps.length + 1) (cs ++ [.slice ka p.1.length kc, .slice va p.2.length vc])) : RdK W' v' (ps ++ [p]) :=
  (ColR.app (w0 := W') hcl (fun j q hj => by
    obtain ⟨ka, kc, va, vc, c0, c1, r0, r1, b⟩ := h j q hj
    exact ⟨ka, kc, va, vc, c0, c1, r0.fr f, r1.fr f, b⟩) rk rv bk bw lk lv o').rd (Fr.refl _ _)
/-- append(l[:n:n], x). -/
theorem wpList_appKVg {w : World} {ops : Array Oper} {rest : List Oper} {o : Oper} {a : Act} {Q : Exit → Act → World → Prop} (hgd : o.guard = none) (s x : Operand)
    (ho : o.op = .call { callee := .builtin .append, args := #[s, x], argTypes := #[27, 27] }) (base : Nat) (ao : Option Addr) (n c : Nat) (xs : List Value) (hs : a.eval s = .slice ao n n) (hown : w.ownsRow base 50 2 (.slice ao n c) n xs) (G : Nat) (hx : a.eval x = .slice (some ⟨G, 0, none⟩) 1 1) {u0 u1 : Value} {T : TypeId} (hG : w.heap[G]? = some (.cells #[u0, u1] T (0, 0)))
    (hu : ∀ u ∈ [u0, u1], u.oneCell' = true) (hl : n ≤ 1000000000)
    (h : ∀ v' w', w'.ownsRow w.heap.size 50 2 v' (n + 1) (xs ++ [u0, u1]) → w.grownBy w' none → wpList Try.prog ops Q rest (a.put o.dst v') w') :
    wpList Try.prog ops Q (o :: rest) a w := by
  obtain ⟨i0, hi, hz0, hz1, hz2⟩ := info_parts infoP
  refine wpList_append_grows w hgd s x 27 ho 50 i0 _ 2 48 Try.underlying27 hi hz0 hz1 hz2 rfl (by decide) ao n n xs hs (fun e => ?_) hown.1 (fun b e j u hj => ?_) ⟨G, 0, none⟩ 1 1 [u0, u1] hx rfl (fun j u hj => by rw [Addr.add_lit, Nat.zero_add, blk_cell hG, ← Array.getElem?_toList]; exact hj) hu (by omega) (by unfold maxLen; omega) (by omega) h
  · rcases hown.2 with ⟨_, h0⟩ | ⟨g, cap, cur, h1, _⟩
    · exact ⟨h0, h0⟩
    · simp [e] at h1
  · rcases hown.2 with ⟨h1, _⟩ | ⟨g, cap, cur, h1, _⟩
    · simp [e] at h1
    · simp only [e, Value.slice.injEq, Option.some.injEq] at h1
      obtain ⟨rfl, _⟩ := h1
      exact hown.cells (g := g) (by rw [e]; rfl) j u hj
set_option maxRecDepth 20000 in
set_option maxHeartbeats 6400000 in
theorem ckeeps_c (w : World) {lv dv uv xv : Value} {LL : List Ps} {sp : Ps} {us bl : List Nat} (h : RdLL w lv LL) (hd : RdK w dv sp) (ru : Rd w uv (bv us)) (bu : By us) (lu : us.length ≤ 140737488355328) (rb : Rd w xv (bv bl)) (bb : By bl) (lb : bl.length ≤ 140737488355328) (hn : LL.length ≤ 140737488355328) (hp : ∀ p ∈ LL, p.length ≤ 140737488355328) (hs : sp.length ≤ 140737488355328) (old seq : Nat) :
    Calls Try.prog 5 #[lv, .int .u64 (old : Int), dv, uv, .int .u64 (seq : Int), xv] w fun e w' => e = .returned (.bool true) ∧ Fr [] w w' := by
  have HL := hid h
  have HD := hid hd
  have HP := hid hp
  have RU := hid ru
  have BU := hid bu
  have RB := hid rb
  have BB := hid bb
  obtain ⟨la, lc, rfl, hlc, _⟩ := h
  obtain ⟨da, dc, rfl, hdc, _⟩ := hd
  obtain ⟨ua, uc, hue⟩ := ru.form
  obtain ⟨xa, xc, hxe⟩ := rb.form
  rw [bv_len] at hue hxe
  subst hue
  subst hxe
  clear ru bu rb bb
  obtain ⟨n, hnn⟩ : ∃ n, n = LL.length := ⟨_, rfl⟩
  obtain ⟨dn, hdn⟩ : ∃ n, n = sp.length := ⟨_, rfl⟩
  obtain ⟨UL, hUL⟩ : ∃ n, n = us.length := ⟨_, rfl⟩
  obtain ⟨XL, hXL⟩ : ∃ n, n = bl.length := ⟨_, rfl⟩
  have HN := hid hnn
  have HDN := hid hdn
  have HUL := hid hUL
  have HXL := hid hXL
  rw [← hnn] at hn hlc HL ⊢
  rw [← hdn] at hs hdc HD ⊢
  rw [← hUL] at lu RU ⊢
  rw [← hXL] at lb RB ⊢
  clear hnn hdn hp hUL hXL
  have KN := hid (known10_c w)
  go_enter Try.func5, Try.ntmps5
  go_upto_if 30 with (go_at_call 8; refine KN.out.mono ?_; rintro e w1 ⟨rfl, f1, hz⟩)
  have F1 := hid f1
  have HZ := hid hz
  clear f1 hz KN
  have FW := hid (few10_c w1 (HL.out.fr F1.out) (by rw [← HN.out]; exact hn) HP.out)
  by_cases hbad : dn ≤ 20 ∧ UL ≤ 128
  · obtain ⟨h20, h128⟩ := hbad
    have h20' : ¬ (20 : Int) < (dn : Int) := by omega
    have h128' : ¬ (128 : Int) < (UL : Int) := by omega
    go_upto_if 43 with (go_at_call 9; refine FW.out.mono ?_; rintro e w2 ⟨hq, f2⟩; rcases hq with ⟨rfl, h8, h80⟩ | rfl)
    · have F2 := hid (F1.out.trans f2)
      have HZ2 := hid (Nat.lt_of_lt_of_le HZ.out f2.size)
      have H80 := hid h80
      have H8 := hid h8
      clear f2 h8 h80
      have MC := hid (merge_c w2 (HL.out.fr F2.out) (HD.out.fr F2.out) (by have := H8.out; omega) (by have := H80.out; omega) (by rw [← HDN.out]; omega) HZ2.out old)
      go_upto_region 6 with (go_at_call 10; refine MC.out.mono ?_; rintro e w3 ⟨hq, f3⟩; rcases hq with ⟨S, v, hr, hm, rfl, hc⟩ | ⟨hr, rfl⟩)
      · have F3 := hid (F2.out.trans f3)
        have SC := hid (sorted_c w3 (HL.out.fr F3.out) (by have := H8.out; omega) (by have := H80.out; omega))
        have MG := hid hm
        have HR := hid hr
        obtain ⟨a13, c13, e13⟩ := hc.form
        subst e13
        have CK := hid hc
        have KL0 := hid (kept_len old sp S S.length)
        have SLN : Hid (S.length ≤ 80) := hid (by rw [hm.1.length_eq]; exact H80.out)
        clear f3 hr hm hc
        go_upto_if 61 with (go_at_call 18; refine SC.out.mono ?_; rintro e w4 ⟨hq, f4⟩; rcases hq with ⟨S', v15, _, hm', rfl, hc', ik⟩ | ⟨hr', rfl⟩)
        · have e := MG.out.one hm'
          subst e
          have F34 := hid f4
          have F4 := hid (F3.out.trans f4)
          obtain ⟨a15, c15, e15⟩ := hc'.form
          subst e15
          have CR := hid hc'
          have IK := hid ik
          have PW : Hid (S.Pairwise Lt) := hid hm'.2
          clear f4 hc' ik hm'
          obtain ⟨KL, hKL⟩ : ∃ q, q = (kept old sp S S.length).length := ⟨_, rfl⟩
          obtain ⟨SL, hSL⟩ : ∃ q, q = S.length := ⟨_, rfl⟩
          have HKL := hid hKL
          have HSL := hid hSL
          rw [← hKL]
          rw [← hSL]
          clear hKL hSL
          have hKL1 : KL ≤ 80 := by rw [HKL.out]; exact Nat.le_trans KL0.out SLN.out
          have hSL1 : SL ≤ 80 := by rw [HSL.out]; exact SLN.out
          by_cases hseq : seq < old
          · have hseq' : (seq : Int) < (old : Int) := by omega
            go_wp2
            go_ret
            exact ⟨rfl, F4.out⟩
          · have hseq' : ¬ (seq : Int) < (old : Int) := by omega
            have HOS : Hid (old ≤ seq) := hid (by omega)
            have INC := hid (in_c w4 (RU.out.fr F4.out) BU.out (by rw [← HUL.out]; exact lu) (HD.out.fr F4.out) (by rw [← HDN.out]; omega))
            rcases hin : inSp sp us with _ | _
            · rw [hin] at INC
              go_upto_region 22 with (go_at_call 19; refine INC.out.mono ?_; rintro e w5 ⟨rfl, f5⟩; have F35 := hid (F34.out.trans f5); have F5 := hid (F4.out.trans f5); have F45 := hid f5; clear f5)
              have LK := hid (CK.out.rd.fr F35.out)
              have SK := hid ((CR.out.rd F34.out).fr F45.out)
              rw [← HKL.out] at LK
              rw [← HSL.out] at SK
              have EQV := hid (keeps_out (u := us) (sp := sp) PW.out IK.out HOS.out)
              have VC := hid (rview_c w5 (LK.out) (by rw [← HKL.out]; omega) (RU.out.fr F5.out) BU.out (by rw [← HUL.out]; exact lu) seq)
              go_upto_region 23 with (go_at_call 16; refine VC.out.mono ?_; rintro e w15 ⟨hq, f15⟩; obtain ⟨vv, okv, x5, rfl, r5, b5, o5, y5⟩ := ViewR.form hq (vwG_by (LK.out).by); have R5 := hid r5; have B5 := hid b5; have O5 := hid o5; have Y5 := hid y5; have F15 := hid f15; clear r5 b5 o5 y5 f15 hq)
              have RV := hid (rview_c w15 ((SK.out).fr F15.out) (by rw [← HSL.out]; omega) ((RU.out.fr F5.out).fr F15.out) BU.out (by rw [← HUL.out]; exact lu) seq)
              go_upto_region 24 with (go_at_call 16; refine RV.out.mono ?_; rintro e w16 ⟨hq, f16⟩; obtain ⟨vw, okw, x6, rfl, r6, b6, o6, y6⟩ := ViewR.form hq (vwG_by (SK.out).by); have eok : okw = okv := by { rw [o6, O5.out]; exact EQV.out.1.symm }; have ex : x6 = x5 := by { rw [y6, Y5.out]; exact EQV.out.2.symm }; subst eok; subst ex; have R6 := hid r6; have B6 := hid b6; have R56 := hid (R5.out.fr f16); have F16 := hid (F5.out.trans (F15.out.trans f16)); clear r6 b6 o6 y6 f16 hq)
              have BE := hid (bytes_c R56.out R6.out B6.out B6.out)
              rw [decide_eq_true rfl] at BE
              have hbb : (okw == okw) = true := by simp
              go_wp2_with (go_at_call 17; refine BE.out.mono ?_; rintro e w17 ⟨rfl, h⟩; rw [h]; clear h)
              go_ret
              exact ⟨rfl, F16.out⟩
            · rw [hin] at INC
              have HIN := hid hin
              clear hin
              obtain ⟨wa, hwa⟩ : ∃ q, q = w4 := ⟨_, rfl⟩
              go_upto_region 12 with (go_at_call 19; refine INC.out.mono ?_; rintro e w5 ⟨rfl, f5⟩; have F35 := hid (F34.out.trans f5); have F5 := hid (F4.out.trans f5); have F45 := hid f5; clear f5)
              have SK := hid ((CR.out.rd F34.out).fr F45.out)
              rw [← HSL.out] at SK
              obtain ⟨aS, cS, eS, _, kS⟩ := SK.out
              simp only [Value.slice.injEq] at eS
              obtain ⟨rfl, eSL, rfl⟩ := eS
              have KS := hid kS
              clear kS INC eSL
              go_wp2_with fail
              go_loopw [18] (fun v18 wr => ∃ i : Nat, i ≤ SL ∧ v18 = .int .i64 (i : Int) ∧ Fr [] w5 wr) (fun v18 _ => SL - (intOf v18).toNat)
              case atStart => exact ⟨0, Nat.zero_le _, rfl, Fr.refl _ _⟩
              case round =>
                obtain ⟨i, hi, rfl, hf⟩ := hrel
                have HF := hid hf
                clear hf
                by_cases hlt : i < SL
                · have hil : i < S.length := by rw [← HSL.out]; exact hlt
                  obtain ⟨b, off, rfl, m1⟩ := KS.out (by omega)
                  obtain ⟨ka, kc, va, vc, P⟩ := m1 i _ (ps_at hil)
                  have z1 := cell_fr HF.out P.ck
                  have hki : isK (kA S i) = true := IK.out _ (List.mem_of_getElem? (ps_at hil))
                  have hkl := isK_len hki
                  obtain ⟨q, o, ck, hp0, hc0⟩ := P.rk.place (by dsimp only; omega)
                  simp only [Value.slice.injEq] at hp0
                  obtain ⟨rfl, hx0, rfl⟩ := hp0
                  clear hx0
                  have SP := hid (refsplit_yes wr (P.rk.fr HF.out) P.bk hc0 hki)
                  have RF := hid ((P.rk.fr HF.out).front (q := (kA S i).length - 8) (by dsimp only; omega))
                  have HUS : Hid ((kA S i).take ((kA S i).length - 8) = userL (kA S i)) := hid rfl
                  dsimp only at RF
                  rw [HUS.out] at RF
                  have BT := hid (refbytes_c RF.out ((RU.out.fr F5.out).fr HF.out) (P.bk.take _) BU.out (by have := P.lk; dsimp only at this; unfold userL; rw [List.length_take]; omega) (by rw [← HUL.out]; exact lu))
                  dsimp only at z1
                  obtain ⟨sq, hsq⟩ : ∃ q, q = tailN (kA S i) / 256 := ⟨_, rfl⟩
                  obtain ⟨kd, hkd⟩ : ∃ q, q = tailN (kA S i) % 256 := ⟨_, rfl⟩
                  obtain ⟨cm, hcm⟩ : ∃ q, q = cmpN (userL (kA S i)) us := ⟨_, rfl⟩
                  rw [← hcm] at BT
                  rw [← hsq, ← hkd] at SP
                  obtain ⟨kl, hkl2⟩ : ∃ q, q = (kA S i).length := ⟨_, rfl⟩
                  rw [← hkl2] at z1 SP BT
                  have hlt' : (i : Int) < (SL : Int) := by omega
                  clear m1 P hki hkl hc0 hsq hkd hcm hkl2
                  by_cases hc : cm = 0
                  · subst hc
                    by_cases hq : sq = 0
                    · subst hq
                      go_wp2_with (first | (go_at_call 21; refine BT.out.mono ?_; rintro e w6 ⟨rfl, f6⟩; have F6 := hid f6; clear f6) | (go_at_call 20; refine SP.out.mono ?_; rintro e w6 ⟨rfl, h⟩; rw [h]; clear h))
                      go_ret
                      exact ⟨rfl, F5.out.trans (HF.out.trans F6.out)⟩
                    · have hq1 : ((sq : Int) == 0) = false := beq_eq_false_iff_ne.2 (by omega)
                      go_wp2_with (first | (go_at_call 21; refine BT.out.mono ?_; rintro e w6 ⟨rfl, f6⟩; have F6 := hid f6; clear f6) | (go_at_call 20; refine SP.out.mono ?_; rintro e w6 ⟨rfl, h⟩; rw [h]; clear h))
                      go_roundw
                      case rel => exact ⟨i + 1, by omega, by go_num, HF.out.trans F6.out⟩
                      case measure => simp [intOf]; omega
                  · have hc1 : (cm == 0) = false := beq_eq_false_iff_ne.2 hc
                    go_wp2_with (first | (go_at_call 21; refine BT.out.mono ?_; rintro e w6 ⟨rfl, f6⟩; have F6 := hid f6; clear f6) | (go_at_call 20; refine SP.out.mono ?_; rintro e w6 ⟨rfl, h⟩; rw [h]; clear h))
                    go_roundw
                    case rel => exact ⟨i + 1, by omega, by go_num, HF.out.trans F6.out⟩
                    case measure => simp [intOf]; omega
                · have hie : i = SL := by omega
                  subst hie
                  have hlt' : ¬ (i : Int) < (i : Int) := by omega
                  have KEY := hid (refkey_ok wr ((RU.out.fr F5.out).fr HF.out) (by rw [← HUL.out]; exact h128) 0 1 (by omega) (by omega))
                  rw [show ((0 : Nat) : Int) = 0 from rfl, show ((1 : Nat) : Int) = 1 from rfl, keyL_len, ← HUL.out] at KEY
                  go_upto_region 20 with (go_at_call 22; refine KEY.out.mono ?_; rintro e w6 ⟨vk, rfl, ok, f6⟩; obtain ⟨ka, kc, rfl, _⟩ := ownsRow_slice ok; have OK := hid ok; have F36 := hid (F35.out.trans (HF.out.trans f6)); have F46 := hid (F45.out.trans (HF.out.trans f6)); have F6 := hid (F5.out.trans (HF.out.trans f6)); clear ok f6)
                  obtain ⟨csL, oL, hL⟩ := CK.out
                  obtain ⟨cs15, o15, h15⟩ := CR.out
                  rw [← HKL.out] at oL
                  rw [← HSL.out] at o15
                  have OL := hid oL
                  have HLL := hid (ColO.entries hL)
                  have O15 := hid o15
                  have H15 := hid h15
                  have hk13 : (KL : Int) ≤ (c13 : Int) := by
                    obtain ⟨_, c', e', hc'⟩ := ownsRow_slice oL
                    simp only [Value.slice.injEq, true_and] at e'
                    rw [← e'.2] at hc'
                    omega
                  have hk13n : (KL : Int).toNat = KL := by omega
                  clear oL hL o15 h15
                  obtain ⟨XA, hXA⟩ : ∃ X, X = w6.alloc (.cells #[.slice ka (UL + 8) kc, .slice xa XL xc] 50) := ⟨_, rfl⟩
                  have FXA : Hid (Fr [] w6 XA) := hid (by rw [hXA]; exact (Fr.refl _ _).alloc _)
                  have HXA : Hid (XA.heap[w6.heap.size]? = some (.cells #[.slice ka (UL + 8) kc, .slice xa XL xc] 50 (0, 0))) := hid (by rw [hXA]; exact blk_new _ _)
                  go_upto_region 21 with (at_builtin; rw [← hXA]; refine wpList_appKVg rfl _ _ rfl w2.heap.size a13 KL c13 csL rfl (ownsRow_fr OL.out (F36.out.trans FXA.out)) w6.heap.size rfl HXA.out (by intro u hu; simp at hu; rcases hu with rfl | rfl <;> rfl) (by omega) ?_; intro v8 w8 o8 g8; have O8 := hid o8; have G8 := hid ((Fr.refl [] XA).grown g8 (fun k hk => by cases hk)); clear o8 g8)
                  obtain ⟨a8, c8, e8, _⟩ := ownsRow_slice O8.out
                  subst e8
                  have F38 := hid (F36.out.trans (FXA.out.trans G8.out))
                  have F48 := hid (F46.out.trans (FXA.out.trans G8.out))
                  have F8 := hid (F6.out.trans (FXA.out.trans G8.out))
                  have OK8 := hid (ownsRow_fr OK.out (FXA.out.trans G8.out))
                  have LT15 := hid (show ∀ k, (Value.slice a15 i c15).ownBlock = some k → w3.heap.size ≤ k ∧ k < XA.heap.size from fun k hk => by
                    have h1 := O15.out.lt k hk
                    have h2 := (F46.out.trans FXA.out).size
                    exact ⟨h1.1, by omega⟩)
                  clear hXA
                  obtain ⟨XB, hXB⟩ : ∃ X, X = w8.alloc (.cells #[.slice ka (UL + 8) kc, .slice xa XL xc] 50) := ⟨_, rfl⟩
                  have FXB : Hid (Fr [] w8 XB) := hid (by rw [hXB]; exact (Fr.refl _ _).alloc _)
                  have HXB : Hid (XB.heap[w8.heap.size]? = some (.cells #[.slice ka (UL + 8) kc, .slice xa XL xc] 50 (0, 0))) := hid (by rw [hXB]; exact blk_new _ _)
                  have SZB : Hid (w3.heap.size ≤ XB.heap.size) := hid (F38.out.trans FXB.out).size
                  go_upto_region 22 with (at_builtin; rw [← hXB]; refine wpList_appKV rfl _ _ rfl w3.heap.size SZB.out (.slice a15 i c15) _ cs15 rfl (ownsRow_fr O15.out (F48.out.trans FXB.out)) w8.heap.size rfl HXB.out (by intro u hu; simp at hu; rcases hu with rfl | rfl <;> rfl) (by omega) ?_; intro v9 w9 o9 g9; have O9 := hid o9; have G9 := hid g9; clear o9 g9)
                  have S9 := hid ((Fr.refl _ _).grown G9.out (fun q hq => .inl (show q ∈ (Value.slice a15 i c15).ownBlock.toList by rw [hq]; simp)))
                  have F39 := hid ((F38.out.trans FXB.out).grown G9.out (fun k hk => .inr (LT15.out k hk).1))
                  have F9 := hid ((F8.out.trans FXB.out).grown G9.out (fun k hk => .inr (Nat.le_trans F3.out.size (LT15.out k hk).1)))
                  have own15 : ∀ y ∈ (Value.slice a15 i c15).ownBlock.toList, (Value.slice a15 i c15).ownBlock = some y := fun y hy => by
                    cases hu : (Value.slice a15 i c15).ownBlock with
                    | none => rw [hu] at hy; simp at hy
                    | some q => rw [hu] at hy; simp at hy; rw [hy]
                  have OL9 := hid (own_keepF (ownsRow_fr O8.out FXB.out) S9.out (fun k hk hm => by
                    have h1 := (O8.out.lt k hk).1
                    have h2 := (LT15.out k (own15 k hm)).2
                    omega))
                  have OK9 := hid (own_keepF (ownsRow_fr OK8.out FXB.out) S9.out (fun k hk hm => by
                    obtain ⟨cs', T, h1, h2⟩ := own_ty (ownsRow_fr O15.out (F48.out.trans FXB.out)) k hm
                    subst h2
                    exact own_not (ownsRow_fr OK8.out FXB.out) h1 (by decide) hk))
                  have KLEN : Hid ((keyL us 0 1).length = UL + 8) := hid (by rw [keyL_len, ← HUL.out])
                  have RK9 : Hid (Rd w9 (.slice ka (keyL us 0 1).length kc) (bv (keyL us 0 1))) := hid (by rw [KLEN.out]; exact Rd.ownB (ns := keyL us 0 1) (by rw [KLEN.out]; exact OK9.out))
                  have RX9 : Hid (Rd w9 (.slice xa bl.length xc) (bv bl)) := hid (by rw [← HXL.out]; exact RB.out.fr F9.out)
                  have LK := hid (rdk_app (p := (keyL us 0 1, bl)) F39.out (by have := OL.out.1; rw [HKL.out] at this; exact this) HLL.out RK9.out RX9.out (keyL_by BU.out 0 1) BB.out (by dsimp only; rw [KLEN.out]; omega) (by dsimp only; rw [← HXL.out]; exact lb) (by have h9 := OL9.out; dsimp only; rw [KLEN.out, ← HXL.out, ← HKL.out]; exact h9))
                  have SK9 := hid (rdk_app (p := (keyL us 0 1, bl)) F39.out (by have := O15.out.1; rw [HSL.out] at this; exact this) H15.out RK9.out RX9.out (keyL_by BU.out 0 1) BB.out (by dsimp only; rw [KLEN.out]; omega) (by dsimp only; rw [← HXL.out]; exact lb) (by have h9 := O9.out; dsimp only; rw [KLEN.out, ← HXL.out, ← HSL.out]; exact h9))
                  have EQ9 := hid (keeps_in (u := us) (sp := sp) PW.out IK.out HOS.out HIN.out [(keyL us 0 1, bl)])
                  obtain ⟨a9, c9, e9, _⟩ := ownsRow_slice O9.out
                  subst e9
                  clear own15 hXB
                  have EQV := hid (And.intro (congrArg vwOk EQ9.out) (congrArg vwX EQ9.out))
                  have VC := hid (rview_c w9 (LK.out) (by rw [List.length_append, ← HKL.out]; simp; omega) (RU.out.fr F9.out) BU.out (by rw [← HUL.out]; exact lu) seq)
                  go_upto_region 23 with (go_at_call 16; refine VC.out.mono ?_; rintro e w15 ⟨hq, f15⟩; obtain ⟨vv, okv, x5, rfl, r5, b5, o5, y5⟩ := ViewR.form hq (vwG_by (LK.out).by); have R5 := hid r5; have B5 := hid b5; have O5 := hid o5; have Y5 := hid y5; have F15 := hid f15; clear r5 b5 o5 y5 f15 hq)
                  have RV := hid (rview_c w15 ((SK9.out).fr F15.out) (by rw [List.length_append, ← HSL.out]; simp; omega) ((RU.out.fr F9.out).fr F15.out) BU.out (by rw [← HUL.out]; exact lu) seq)
                  go_upto_region 24 with (go_at_call 16; refine RV.out.mono ?_; rintro e w16 ⟨hq, f16⟩; obtain ⟨vw, okw, x6, rfl, r6, b6, o6, y6⟩ := ViewR.form hq (vwG_by (SK9.out).by); have eok : okw = okv := by { rw [o6, O5.out]; exact EQV.out.1.symm }; have ex : x6 = x5 := by { rw [y6, Y5.out]; exact EQV.out.2.symm }; subst eok; subst ex; have R6 := hid r6; have B6 := hid b6; have R56 := hid (R5.out.fr f16); have F16 := hid (F9.out.trans (F15.out.trans f16)); clear r6 b6 o6 y6 f16 hq)
                  have BE := hid (bytes_c R56.out R6.out B6.out B6.out)
                  rw [decide_eq_true rfl] at BE
                  have hbb : (okw == okw) = true := by simp
                  go_wp2_with (go_at_call 17; refine BE.out.mono ?_; rintro e w17 ⟨rfl, h⟩; rw [h]; clear h)
                  go_ret
                  exact ⟨rfl, F16.out⟩
        · exact absurd HR.out (by
            rintro hra
            rcases hr' with ⟨p, hp, hn⟩ | hn
            · exact hn (hra p hp)
            · exact hn _ MG.out)
      · have F3 := hid (F2.out.trans f3)
        have SC := hid (sorted_c w3 (HL.out.fr F3.out) (by have := H8.out; omega) (by have := H80.out; omega))
        have HR := hid hr
        clear f3 hr
        go_upto_if 61 with (go_at_call 18; refine SC.out.mono ?_; rintro e w4 ⟨hq, f4⟩; rcases hq with ⟨S', v15, hr', hm', rfl, hc', ik⟩ | ⟨hr', rfl⟩)
        · exact absurd HR.out (by
            rintro (⟨p, hp, hn⟩ | hn)
            · exact hn (hr' p hp)
            · exact hn _ hm')
        · have F4 := hid (F3.out.trans f4)
          clear f4 hr'
          go_wp2
          go_ret
          exact ⟨rfl, F4.out⟩
    · have F2 := hid (F1.out.trans f2)
      clear f2
      go_wp2
      go_ret
      exact ⟨rfl, F2.out⟩
  · have FWB : Hid (Calls Try.prog 9 #[.slice la n lc] w1 fun e w' => (∃ b, e = .returned (.bool b)) ∧ Fr [] w1 w') := hid (FW.out.mono (fun e w' hq => ⟨by rcases hq.1 with ⟨e1, _⟩ | e1 <;> exact ⟨_, e1⟩, hq.2⟩))
    clear FW
    by_cases h20 : dn ≤ 20
    · have h20' : ¬ (20 : Int) < (dn : Int) := by omega
      have h128' : (128 : Int) < (UL : Int) := by omega
      go_upto_if 43 with (go_at_call 9; refine FWB.out.mono ?_; rintro e w2 ⟨⟨b, rfl⟩, f2⟩; have F2 := hid (F1.out.trans f2); clear f2; rcases b with _ | _)
      · go_wp2
        go_ret
        exact ⟨rfl, F2.out⟩
      · go_wp2
        go_ret
        exact ⟨rfl, F2.out⟩
    · have h20' : (20 : Int) < (dn : Int) := by omega
      go_upto_if 43 with (go_at_call 9; refine FWB.out.mono ?_; rintro e w2 ⟨⟨b, rfl⟩, f2⟩; have F2 := hid (F1.out.trans f2); clear f2; rcases b with _ | _)
      · go_wp2
        go_ret
        exact ⟨rfl, F2.out⟩
      · go_wp2
        go_ret
        exact ⟨rfl, F2.out⟩
end Go.Proofs.Ythmlpjogbdpgiaa
