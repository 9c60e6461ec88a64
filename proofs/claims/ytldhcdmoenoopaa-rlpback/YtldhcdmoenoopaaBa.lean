/-
  The walk of RlpBack.
-/
import Derived.Test.YtldhcdmoenoopaaJ16
import Derived.Test.YtldhcdmoenoopaaJ20
import Derived.Test.YtldhcdmoenoopaaJ21
import Derived.Test.YtldhcdmoenoopaaJ22
import Derived.Test.YtldhcdmoenoopaaBk
import Derived.Deep.CutRange
namespace Go.Proofs.Ytldhcdmoenoopaa
open Go.ChangeShapes Go.WideShapes Go.ChangeAt Go.RowKit Go.Deep

theorem bool_of (P : Prop) : ∃ x : Bool, P ↔ x = true := by
  by_cases h : P
  · exact ⟨true, by simp [h]⟩
  · exact ⟨false, by simp [h]⟩
theorem ba_ext {a b : ByteArray} (h : a.toList = b.toList) : a = b := by
  rw [ByteArray.toList_eq, ByteArray.toList_eq] at h
  exact ByteArray.ext (Array.ext' h)
theorem Rd.upto {w : World} {a : Option Addr} {n c : Nat} {ns : List Nat} (h : Rd w (.slice a n c) (bv ns)) {k : Nat} (hk : k ≤ n) : Rd w (.slice a k c) (bv (ns.take k)) := by
  have hn : n = ns.length := by
    obtain ⟨a', c', e⟩ := h.form
    rw [bv_len] at e
    simp only [Value.slice.injEq] at e
    exact e.2.1
  subst hn
  rcases h with ⟨h, h'⟩ | ⟨a', c', h, h4, h5⟩
  · simp only [Value.slice.injEq] at h
    obtain ⟨rfl, h0, rfl⟩ := h
    have : ns = [] := List.eq_nil_of_length_eq_zero h0
    subst this
    simp only [List.length_nil] at hk
    have : k = 0 := by omega
    subst this
    exact .inl ⟨rfl, rfl⟩
  · simp only [Value.slice.injEq, bv_len] at h
    obtain ⟨rfl, _, rfl⟩ := h
    refine .inr ⟨a', c, by rw [bv_len, List.length_take, Nat.min_eq_left hk], by rw [bv_len, List.length_take]; rw [bv_len] at h4; omega, fun j u hj => h5 j u ?_⟩
    rw [bv_take, List.getElem?_take] at hj
    split at hj
    · exact hj
    · cases hj
theorem encB_le (t : Tr 19) : (encB t).length ≤ 65536 := by
  unfold encB encE
  by_cases hb : bad 19 1 t = 0
  · by_cases hl : 65536 < (enc 19 t).length
    · simp [hb, hl]
    · simp [hb, hl]; omega
  · simp [hb]
theorem three {wA wk : World} {N : Nat} {p q r : Value} {T : TypeId} (h : wA.heap[N]? = some (.cells #[p, q, r] T (0, 0))) (f : Fr [] wA wk) : wk.cell? ⟨N, 0, none⟩ = some p ∧ wk.cell? ⟨N, 1, none⟩ = some q ∧ wk.cell? ⟨N, 2, none⟩ = some r := by
  have hbk := f.at h (by simp)
  have z1 := blk_cell hbk 0
  have z2 := blk_cell hbk 1
  have z3 := blk_cell hbk 2
  simp at z1 z2 z3
  exact ⟨z1, z2, z3⟩
theorem firstL_err {b : List Nat} (hb : By b) {x : Nat} (h : firstL b = .error x) : 0 < x ∧ x < 100 := by
  unfold firstL at h
  split at h
  · cases h; omega
  · split at h
    · cases h; omega
    · rcases rdT_err 16 b 0 x hb (by assumption) (by omega) (by omega) h with h | h | h <;> omega
set_option maxHeartbeats 400000 in
theorem helpBytes_c {w : World} {v1 v2 : Value} {a b : List Nat} (h1 : Rd w v1 (bv a)) (h2 : Rd w v2 (bv b)) (hab : a = b) :
    Calls Try.prog 10 #[v1, v2] w fun e w' => e = .returned (.bool true) ∧ w' = w := by
  subst hab
  have e1 := run_conv h1
  have e2 := run_conv h2
  have e3 := ba_beq (strOf a)
  obtain ⟨a1, c1, rfl⟩ := h1.form
  obtain ⟨a2, c2, rfl⟩ := h2.form
  clear h1 h2
  go_enter Try.func10, Try.ntmps10
  go_wp2
  go_ret
  exact ⟨rfl, rfl⟩

theorem equal_is (w : World) {v1 v2 : Value} {t1 t2 : Tr 19} (h1 : IsV w 19 v1 t1) (h2 : IsV w 19 v2 t2) (hc1 : cw 19 t1 ≤ 400) (hc2 : cw 19 t2 ≤ 400) {D : Bool} (hD : (encE t1 = 0 ∧ encE t2 = 0 ∧ encB t1 = encB t2) ↔ D = true) :
    Calls Try.prog 18 #[v1, v2] w fun r w' => r = .returned (.bool D) ∧ Fr [] w w' := by
  refine (equal_c w h1 h2 (by have := cnt_cw 19 t1; omega) (by have := enc_cw 19 t1; omega) (by have := cnt_cw 19 t2; omega) (by have := enc_cw 19 t2; omega)).mono ?_
  rintro r w' ⟨rfl, f⟩
  refine ⟨?_, f⟩
  cases D with
  | true => rw [decide_eq_true (hD.2 rfl)]
  | false => rw [decide_eq_false (fun h => by have := hD.1 h; cases this)]

set_option maxRecDepth 20000 in
set_option maxHeartbeats 4000000 in
theorem back_walk (w : World) {l1 l2 : Bool} {x1 x4 y1 y4 m1 b1 : Option Addr} {x2 x3 x5 x6 y2 y3 y5 y6 mn mc bn bc : Nat} {tx ty : Tr 19} {mm bb : List Nat}
    (hx : IsV w 19 (.agg #[.bool l1, .slice x1 x2 x3, .slice x4 x5 x6]) tx) (hy : IsV w 19 (.agg #[.bool l2, .slice y1 y2 y3, .slice y4 y5 y6]) ty)
    (hm : Rd w (.slice m1 mn mc) (bv mm)) (hmb : By mm) (hml : mm.length = mn) (hb : Rd w (.slice b1 bn bc) (bv bb)) (hbb : By bb) (hbl : bb.length = bn) :
    Calls Try.prog 5 #[.agg #[.bool l1, .slice x1 x2 x3, .slice x4 x5 x6], .agg #[.bool l2, .slice y1 y2 y3, .slice y4 y5 y6], .slice m1 mn mc, .slice b1 bn bc] w fun e w' => e = .returned (.bool true) ∧ Fr [] w w' := by
  have FA := hid (((Fr.refl [] w).alloc (.cells #[.bool l1, .slice x1 x2 x3, .slice x4 x5 x6] 25)).alloc (.cells #[.bool l2, .slice y1 y2 y3, .slice y4 y5 y6] 25))
  have hA := hid (show ((w.alloc (.cells #[.bool l1, .slice x1 x2 x3, .slice x4 x5 x6] 25)).alloc (.cells #[.bool l2, .slice y1 y2 y3, .slice y4 y5 y6] 25)).heap[w.heap.size]? = some (.cells #[.bool l1, .slice x1 x2 x3, .slice x4 x5 x6] 25 (0, 0)) by
    rw [blk_old _ _ (by simp)]; exact blk_new _ _)
  have hB := hid (show ((w.alloc (.cells #[.bool l1, .slice x1 x2 x3, .slice x4 x5 x6] 25)).alloc (.cells #[.bool l2, .slice y1 y2 y3, .slice y4 y5 y6] 25)).heap[w.heap.size + 1]? = some (.cells #[.bool l2, .slice y1 y2 y3, .slice y4 y5 y6] 25 (0, 0)) from new_at _ _ (by simp))
  have VX := hid (hx.fr FA.out)
  have VY := hid (hy.fr FA.out)
  have RM := hid (hm.fr FA.out)
  have RB := hid (hb.fr FA.out)
  have BYX := hid (encB_by hx.byT)
  have BYY := hid (encB_by hy.byT)
  have BM := hid hmb
  have BB := hid hbb
  have HM := hid hml
  have HB := hid hbl
  clear hx hy hm hmb hml hb hbb hbl
  go_enter Try.func5, Try.ntmps5
  go_wp2_with fail
  generalize (w.alloc (.cells #[.bool l1, .slice x1 x2 x3, .slice x4 x5 x6] 25)).alloc (.cells #[.bool l2, .slice y1 y2 y3, .slice y4 y5 y6] 25) = wA at FA hA hB VX VY RM RB ⊢
  refine (known_c _).mono ?_
  rintro e w1 ⟨rfl, f1⟩
  have G1 := hid f1
  obtain ⟨q1, q2, q3⟩ := three hA.out G1.out
  clear f1
  go_wp2_with fail
  refine (few_c _ (VX.out.fr G1.out)).mono ?_
  rintro e w2 ⟨rfl, f2⟩
  have G2 := hid (G1.out.trans f2)
  clear f2 q1 q2 q3
  have hN1 := encE_le tx
  have hN2 := encE_le ty
  by_cases hcx : cw 19 tx ≤ 400
  case neg =>
    rw [decide_eq_false hcx]
    clear hcx
    go_wp2
    go_ret
    exact ⟨rfl, FA.out.trans G2.out⟩
  have HCX := hid hcx
  clear hcx
  rw [decide_eq_true HCX.out]
  obtain ⟨q1, q2, q3⟩ := three hB.out G2.out
  go_wp2_with fail
  refine (few_c _ (VY.out.fr G2.out)).mono ?_
  rintro e w3 ⟨rfl, f3⟩
  have G3 := hid (G2.out.trans f3)
  clear f3 q1 q2 q3
  by_cases hcy : cw 19 ty ≤ 400
  case neg =>
    rw [decide_eq_false hcy]
    clear hcy
    go_wp2
    go_ret
    exact ⟨rfl, FA.out.trans G3.out⟩
  have HCY := hid hcy
  clear hcy
  rw [decide_eq_true HCY.out]
  by_cases h200 : 200 < mn
  · have z1 : (200 : Int) < (mn : Int) := by omega
    go_wp2
    go_ret
    exact ⟨rfl, FA.out.trans G3.out⟩
  by_cases h3000 : 3000 < bn
  · have z1 : ¬ (200 : Int) < (mn : Int) := by omega
    have z2 : (3000 : Int) < (bn : Int) := by omega
    go_wp2
    go_ret
    exact ⟨rfl, FA.out.trans G3.out⟩
  have z1 : ¬ (200 : Int) < (mn : Int) := by omega
  have z2 : ¬ (3000 : Int) < (bn : Int) := by omega
  obtain ⟨q1, q2, q3⟩ := three hA.out G3.out
  obtain ⟨N1, e1⟩ : ∃ N, N = encE tx := ⟨_, rfl⟩
  obtain ⟨N2, e2⟩ : ∃ N, N = encE ty := ⟨_, rfl⟩
  have HN1 := hid e1
  have HN2 := hid e2
  rw [← e1] at hN1
  rw [← e2] at hN2
  clear e1 e2
  go_wp2_with fail
  refine (encode_c _ (VX.out.fr G3.out) (by omega) (by have := cnt_cw 19 tx; have := HCX.out; omega) (by have := enc_cw 19 tx; have := HCX.out; omega)).mono ?_
  rintro e w4 ⟨v4, rfl, o4, f4⟩
  have G4 := hid (G3.out.trans f4)
  obtain ⟨P, hP⟩ : ∃ P, P = (encB tx).length := ⟨_, rfl⟩
  rw [← hP] at o4
  obtain ⟨ac, cc, rfl, _⟩ := ownsRow_slice o4
  have RC := hid (Rd.ownN o4 hP)
  have HP := hid hP
  rw [← HN1.out]
  clear f4 o4 hP q1 q2 q3 z1 z2
  obtain ⟨q1, q2, q3⟩ := three hB.out G4.out
  go_wp2_with fail
  refine (encode_c _ (VY.out.fr G4.out) (by omega) (by have := cnt_cw 19 ty; have := HCY.out; omega) (by have := enc_cw 19 ty; have := HCY.out; omega)).mono ?_
  rintro e w5 ⟨v5, rfl, o5, f5⟩
  have G5 := hid (G4.out.trans f5)
  obtain ⟨Q, hQ⟩ : ∃ Q, Q = (encB ty).length := ⟨_, rfl⟩
  rw [← hQ] at o5
  obtain ⟨ad, cd, rfl, hcd⟩ := ownsRow_slice o5
  have RD := hid (Rd.ownN o5 hQ)
  have RC5 := hid (RC.out.fr f5)
  have HQ := hid hQ
  have hPl : P ≤ 65536 := by rw [HP.out]; exact encB_le tx
  have hQl : Q ≤ 65536 := by rw [HQ.out]; exact encB_le ty
  rw [← HN2.out]
  clear f5 o5 hQ q1 q2 q3 RC
  go_upto_if 50 with fail
  go_cut [13, 14, 15, 16, 17] from 49 (fun _ _ _ _ _ W => Fr [] w5 W)
  case first =>
    by_cases hn1 : N1 = 0
    case neg =>
      have hz : ((N1 : Int) == 0) = false := beq_eq_false_iff_ne.2 (by omega)
      go_wp2
      go_meet
      exact Fr.refl [] w5
    subst hn1
    have HFS := hid (first_self HN1.out.symm HCX.out)
    have hP2 : P ≤ 23600 := by
      rw [HP.out, (bad_of_encE HN1.out.symm).2.2]
      have := enc_cw 19 tx
      have := HCX.out
      omega
    have HFB := hid (first_back (more := mm) HN1.out.symm HCX.out (by rw [← HP.out, HM.out]; omega))
    go_wp2_with fail
    refine (decode_c w5 RC5.out BYX.out (by rw [← HP.out]; omega)).mono ?_
    rintro e wd ⟨hT, fd⟩
    rw [HFS.out] at hT
    rcases hT with ⟨hlt, _⟩ | ⟨_, v, rfl, hF⟩
    · exact absurd hlt (Nat.lt_irrefl _)
    obtain ⟨l3, u1, u2, u3, u4, u5, u6, rfl⟩ := hF.isV.agg
    obtain ⟨W6, hW6⟩ : ∃ W, W = wd.alloc (.cells #[.bool l3, .slice u1 u2 u3, .slice u4 u5 u6] 25) := ⟨_, rfl⟩
    have F6 : Hid (Fr [] w5 W6) := hid (by rw [hW6]; exact fd.alloc _)
    have VZ : Hid (IsV W6 19 (.agg #[.bool l3, .slice u1 u2 u3, .slice u4 u5 u6]) tx) := hid (by rw [hW6]; exact hF.isV.fr ((Fr.refl [] wd).alloc _))
    have BZ : Hid (W6.heap[wd.heap.size]? = some (.cells #[.bool l3, .slice u1 u2 u3, .slice u4 u5 u6] 25 (0, 0))) := hid (by rw [hW6]; exact blk_new _ _)
    have RC6 := hid (RC5.out.fr F6.out)
    have RM6 := hid (RM.out.fr (G5.out.trans F6.out))
    clear hF fd HFS
    go_upto_region 9 with fail
    rw [← hW6]
    clear hW6
    have hPm : (encB tx).length + mm.length ≤ 140737488355328 := by rw [← HP.out, HM.out]; omega
    have hPc : (encB tx).length ≤ 140737488355328 := by rw [← HP.out]; omega
    obtain ⟨L, hL⟩ : ∃ L, L = (encB tx).length + mm.length := ⟨_, rfl⟩
    have HL := hid hL
    clear hL
    have HPM := hid hPm
    have HPC := hid hPc
    clear hPm hPc
    go_wp2_with (at_builtin; first
      | (refine wpList_append_nil rfl _ _ rfl rfl (Fr.refl _ W6) _ RC6.out rfl HPC.out ?_; intro v7 w7 o7 f7 _; have O7 := hid o7; have F7 := hid f7; clear o7 f7)
      | (refine wpList_append_bv rfl _ _ rfl O7.out rfl F7.out (Nat.le_refl _) F7.out.size _ (RM6.out.fr F7.out) rfl HPM.out ?_; intro v8 w8 o8 f8; rw [← HL.out] at o8; obtain ⟨a8, c8, rfl, _⟩ := ownsRow_slice o8; have R8 := hid (Rd.ownN o8 (by rw [List.length_append, HL.out])); have F8 := hid f8; clear o8 f8))
    refine (first_c w8 R8.out (BYX.out.append BM.out) (by rw [List.length_append]; exact HPM.out)).mono ?_
    rintro e w9 ⟨hT, f9⟩
    rw [HFB.out] at hT
    obtain ⟨v, rfl, hF⟩ := hT
    rw [← HP.out]
    obtain ⟨l4, s1, s2, s3, s4, s5, s6, rfl⟩ := hF.isV.agg
    obtain ⟨W9, hW9⟩ : ∃ W, W = w9.alloc (.cells #[.bool l4, .slice s1 s2 s3, .slice s4 s5 s6] 25) := ⟨_, rfl⟩
    have F9 : Hid (Fr [] W6 W9) := hid (by rw [hW9]; exact (F8.out.trans f9).alloc _)
    have VV : Hid (IsV W9 19 (.agg #[.bool l4, .slice s1 s2 s3, .slice s4 s5 s6]) tx) := hid (by rw [hW9]; exact hF.isV.fr ((Fr.refl [] w9).alloc _))
    have BV : Hid (W9.heap[w9.heap.size]? = some (.cells #[.bool l4, .slice s1 s2 s3, .slice s4 s5 s6] 25 (0, 0))) := hid (by rw [hW9]; exact blk_new _ _)
    clear hF f9 HFB
    go_upto_region 10 with fail
    rw [← hW9]
    clear hW9
    have G9 := hid (G5.out.trans (F6.out.trans F9.out))
    obtain ⟨q1, q2, q3⟩ := three hA.out G9.out
    obtain ⟨q4, q5, q6⟩ := three BZ.out F9.out
    have SM := hid (same_c 19 W9 _ _ tx (full_of_cw 19 tx HCX.out) (VX.out.fr G9.out) (VZ.out.fr F9.out))
    go_wp2_with fail
    refine SM.out.mono ?_
    rintro e wE ⟨rfl, fE⟩
    have FE := hid fE
    have GE := hid (G9.out.trans fE)
    have ZE := hid (F9.out.trans fE)
    clear q1 q2 q3 q4 q5 q6 fE SM
    obtain ⟨q1, q2, q3⟩ := three hA.out GE.out
    obtain ⟨q4, q5, q6⟩ := three BZ.out ZE.out
    go_wp2_with fail
    refine (equal_is wE (VX.out.fr GE.out) (VZ.out.fr ZE.out) HCX.out HCX.out (D := true) ⟨fun _ => rfl, fun _ => ⟨HN1.out.symm, HN1.out.symm, rfl⟩⟩).mono ?_
    rintro e wG ⟨rfl, fG⟩
    have FG := hid (FE.out.trans fG)
    have GG := hid (GE.out.trans fG)
    clear q1 q2 q3 q4 q5 q6 fG ZE FE GE
    obtain ⟨q1, q2, q3⟩ := three hA.out GG.out
    obtain ⟨q4, q5, q6⟩ := three BV.out FG.out
    have SM := hid (same_c 19 wG _ _ tx (full_of_cw 19 tx HCX.out) (VX.out.fr GG.out) (VV.out.fr FG.out))
    have hwr : IntKind.i64.wrap ((P : Int) + (mn : Int)) = (P : Int) + (mn : Int) := by rw [IntKind.wrap_i64]; omega
    have hle : (P : Int) + (mn : Int) ≤ 65536 := by omega
    have hpp : ((P : Int) == (P : Int)) = true := by simp
    go_wp2_with fail
    refine SM.out.mono ?_
    rintro e wH ⟨rfl, fH⟩
    have FH := hid (F6.out.trans (F9.out.trans (FG.out.trans fH)))
    clear q1 q2 q3 q4 q5 q6 fH SM
    go_wp2
    go_meet
    exact FH.out
  case rest =>
    have FC := hid hcut
    clear hcut
    have RDc := hid (RD.out.fr FC.out)
    have RCc := hid (RC5.out.fr FC.out)
    have GC := hid (G5.out.trans FC.out)
    go_upto_region 14 with fail
    go_cut [123] from 101 to 122 (fun v W => v = .bool false ∧ Fr [] wc W)
    case first =>
      by_cases hn1 : N1 = 0
      case neg =>
        have hz : ((N1 : Int) == 0) = false := beq_eq_false_iff_ne.2 (by omega)
        go_quiet (fail)
        go_wp2
        go_meet
        exact ⟨rfl, (Fr.refl [] wc).drewN _⟩
      subst hn1
      by_cases hn2 : N2 = 0
      case neg =>
        have hz : ((N2 : Int) == 0) = false := beq_eq_false_iff_ne.2 (by omega)
        go_quiet (fail)
        go_wp2
        go_meet
        exact ⟨rfl, (Fr.refl [] wc).drewN _⟩
      subst hn2
      by_cases hpq : P < Q
      case neg =>
        have hz : ¬ (P : Int) < (Q : Int) := by omega
        go_quiet (fail)
        go_wp2
        go_meet
        exact ⟨rfl, (Fr.refl [] wc).drewN _⟩
      have hz : (P : Int) < (Q : Int) := by omega
      have hne := no_begin HN1.out.symm HN2.out.symm HCX.out HCY.out (by rw [← HP.out, ← HQ.out]; exact hpq)
      rw [← HP.out] at hne
      have hs : ((strOf ((encB ty).take P)).toList == (strOf (encB tx)).toList) = false := by
        rw [beq_eq_false_iff_ne]
        exact fun h => hne (strOf_inj (fun n hn => BYY.out n (List.mem_of_mem_take hn)) BYX.out (ba_ext h))
      have g1 := fun m : Nat => run_conv ((Rd.upto RDc.out (show P ≤ Q by omega)).fr ((Fr.refl [] wc).drewN m))
      have g2 := fun m : Nat => run_conv (RCc.out.fr ((Fr.refl [] wc).drewN m))
      clear hne
      generalize strOf ((encB ty).take P) = s1 at *
      generalize strOf (encB tx) = s2 at *
      have h0 : (0 : Int) ≤ (P : Int) := by omega
      have h1 : ((P : Int)).toNat = P := by omega
      have h2 : (P : Int) ≤ (cd : Int) := by omega
      have h3 : P ≤ cd := by omega
      go_quiet (fail)
      go_wp2
      go_meet
      exact ⟨rfl, (Fr.refl [] wc).drewN _⟩
    case rest =>
      obtain ⟨rfl, fc2⟩ := hcut
      have GD := hid (GC.out.trans fc2)
      have RDd := hid (RDc.out.fr fc2)
      have RCd := hid (RCc.out.fr fc2)
      clear fc2 RDc RCc GC
      obtain ⟨q1, q2, q3⟩ := three hA.out GD.out
      obtain ⟨q4, q5, q6⟩ := three hB.out GD.out
      obtain ⟨D, hD⟩ := bool_of (encE tx = 0 ∧ encE ty = 0 ∧ encB tx = encB ty)
      have HD := hid hD
      have EQ := hid (equal_is wc (VX.out.fr GD.out) (VY.out.fr GD.out) HCX.out HCY.out hD)
      clear hD
      go_upto_region 16 with fail
      go_cut [140] from 124 to 139 (fun v W => v = .bool false ∧ Fr [] wc W)
      case first =>
        go_wp2_with fail
        refine EQ.out.mono ?_
        rintro e w6 ⟨rfl, f6⟩
        have F6 := hid f6
        have c1 := run_conv (RDd.out.fr f6)
        have c2 := run_conv (RCd.out.fr f6)
        clear f6 q1 q2 q3 q4 q5 q6
        by_cases hn1 : N1 = 0
        case neg =>
          have hz : ((N1 : Int) == 0) = false := beq_eq_false_iff_ne.2 (by omega)
          have hd : D = false := by
            rcases D with _ | _
            · rfl
            · exact absurd (HN1.out.trans (HD.out.2 rfl).1) hn1
          subst hd
          go_wp2
          go_meet
          exact ⟨rfl, F6.out⟩
        subst hn1
        by_cases hn2 : N2 = 0
        case neg =>
          have hz : ((N2 : Int) == 0) = false := beq_eq_false_iff_ne.2 (by omega)
          have hd : D = false := by
            rcases D with _ | _
            · rfl
            · exact absurd (HN2.out.trans (HD.out.2 rfl).2.1) hn2
          subst hd
          go_wp2
          go_meet
          exact ⟨rfl, F6.out⟩
        subst hn2
        have hs : ((strOf (encB tx)).toList == (strOf (encB ty)).toList) = D := by
          rcases D with _ | _
          · rw [beq_eq_false_iff_ne]
            exact fun h => by have := HD.out.1 ⟨HN1.out.symm, HN2.out.symm, strOf_inj BYX.out BYY.out (ba_ext h)⟩; cases this
          · rw [(HD.out.2 rfl).2.2]; simp
        generalize strOf (encB ty) = s1 at *
        generalize strOf (encB tx) = s2 at *
        rcases D with _ | _
        · go_wp2
          go_meet
          exact ⟨rfl, F6.out⟩
        · go_wp2
          go_meet
          exact ⟨rfl, F6.out⟩
      case rest =>
        obtain ⟨rfl, fc3⟩ := hcut
        have G6 := hid (GD.out.trans fc3)
        clear fc3 RDd RCd EQ HD q1 q2 q3 q4 q5 q6 GD
        have RBk := hid (RB.out.fr G6.out)
        go_wp2_with fail
        refine (decode_c _ RBk.out BB.out (by rw [HB.out]; omega)).mono ?_
        rintro e wd ⟨hT, fd⟩
        have GD := hid (G6.out.trans fd)
        have RBd := hid (RBk.out.fr fd)
        clear fd RBk
        rcases hfl : firstL bb with er | ⟨t, k, c'⟩
        · rw [hfl] at hT
          have hT' : e = .returned (.tuple #[.agg #[.bool false, .slice none 0 0, .slice none 0 0], .int .i64 (er : Int)]) := hT
          subst hT'
          have her := firstL_err BB.out hfl
          have hez : ((er : Int) == 0) = false := beq_eq_false_iff_ne.2 (by omega)
          clear hT hfl
          go_wp2
          go_ret
          exact ⟨rfl, FA.out.trans (GD.out.alloc _)⟩
        · rw [hfl] at hT
          have HFL := hid hfl
          clear hfl
          rcases hT with ⟨_, rfl⟩ | ⟨hk, v, rfl, hF⟩
          · go_wp2
            go_ret
            exact ⟨rfl, FA.out.trans (GD.out.alloc _)⟩
          · obtain ⟨l3, u1, u2, u3, u4, u5, u6, rfl⟩ := hF.isV.agg
            obtain ⟨k1, k2, k3, k4⟩ := read_written BB.out HFL.out hk
            have HK := hid (And.intro k1 k2)
            have VZ := hid (hF.isV.fr ((Fr.refl [] wd).alloc (.cells #[.bool l3, .slice u1 u2 u3, .slice u4 u5 u6] 25)))
            have GZ := hid (GD.out.alloc (.cells #[.bool l3, .slice u1 u2 u3, .slice u4 u5 u6] 25))
            have RBz := hid (RBd.out.fr ((Fr.refl [] wd).alloc (.cells #[.bool l3, .slice u1 u2 u3, .slice u4 u5 u6] 25)))
            clear hF k1 k2 RBd
            go_wp2_with fail
            refine (encode_c _ VZ.out (by omega) k3 (by omega)).mono ?_
            rintro e wz ⟨vz, rfl, oz, fz⟩
            rw [HK.out.1]
            have Rz := hid (Rd.ownB oz)
            obtain ⟨az, cz, rfl, _⟩ := ownsRow_slice oz
            have GE := hid (GZ.out.trans fz)
            have RBe := hid (RBz.out.fr fz)
            clear oz fz
            go_wp2_with fail
            refine (helpBytes_c Rz.out RBe.out HK.out.2).mono ?_
            rintro e wf ⟨rfl, rfl⟩
            go_wp2
            go_ret
            exact ⟨rfl, FA.out.trans GE.out⟩
end Go.Proofs.Ytldhcdmoenoopaa
