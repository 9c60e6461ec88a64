/-
  compact.Cut, walked.
-/
import Derived.Test.YthmlpjogbdpgiaaCXB
namespace Go.Proofs.Ythmlpjogbdpgiaa
open Go.ChangeShapes Go.WideShapes Go.ChangeAt Go.RowKit

def CutO (w' : World) (ps : Ps) (sz : Nat) (e : Ending) : Prop := (Rises ps ∧ ∃ v, e = .returned (.tuple #[v, .int .i64 0]) ∧ RdLL w' v (cutF sz ps)) ∨ (¬ Rises ps ∧ e = .returned (.tuple #[.slice none 0 0, .int .i64 101]))
theorem CutI.user {w Wk wr : World} {v6 v7 v8 v8' : Value} {PP : List Ps} {c : Ps} {u u' : List Nat} (h : CutI w Wk wr v6 v7 v8 PP c u) (o : wr.ownsRow w.heap.size 5 1 v8' u'.length (bv u')) : CutI w Wk wr v6 v7 v8' PP c u' :=
  ⟨h.f0, h.f1, h.pc, h.co, o⟩
set_option maxRecDepth 20000 in
set_option maxHeartbeats 6400000 in
theorem ccut_c (w : World) {v : Value} {ps : Ps} (h : RdK w v ps) (hn : ps.length ≤ 10000) (size : Int) (sz : Nat) (hsz : (sz : Int) = if size < 1 then 1 else size) :
    Calls Try.prog 13 #[v, .int .i64 size] w fun e w' => CutO w' ps sz e ∧ Fr [] w w' := by
  have RI := hid (crises_c w h (by omega))
  have LN := hid h.lens
  have BYP := hid h.by
  obtain ⟨a, c, rfl, hc, k1⟩ := h
  have H1 := hid k1
  have HSZ := hid hsz
  have SZ1 : Hid (0 < sz) := hid (by split at hsz <;> omega)
  clear k1 hsz
  obtain ⟨n, hnn⟩ : ∃ n, n = ps.length := ⟨_, rfl⟩
  have HN := hid hnn
  rw [← hnn] at hn hc RI ⊢
  clear hnn
  go_enter Try.func13, Try.ntmps13
  go_upto_if 18 with (go_at_call 25; refine RI.out.mono ?_; rintro e w2 ⟨hq, f2⟩; rcases hq with ⟨rfl, hr⟩ | ⟨rfl, hr⟩)
  · have HR := hid hr
    have F2 := hid f2
    clear hr f2 RI
    have C0 : Hid (CutI w w2 w2 (.slice none 0 0) (.slice none 0 0) (.slice none 0 0) (cutAt sz ps 0).1 (cutAt sz ps 0).2.1 []) := hid ⟨F2.out, Fr.refl _ _, PcO.nil _ _, ColO.nil _ _, World.ownsRow_nil _ _ _ _⟩
    go_wp2_with fail
    go_loopw [6, 7, 8, 9, 21] (fun v6 v7 v8 v9 v21 wr => ∃ (i : Nat) (Wk : World) (u : List Nat) (hv : Nat), i ≤ n ∧ v21 = .int .i64 (i : Int) ∧ v9 = .int .i64 (hv : Int) ∧ (0 < i → u = userL (kA ps (i - 1))) ∧ hv = (cutAt sz ps i).2.2 ∧ CutI w Wk wr v6 v7 v8 (cutAt sz ps i).1 (cutAt sz ps i).2.1 u) (fun _ _ _ _ v21 _ => n - (intOf v21).toNat)
    case atStart => exact ⟨0, w2, [], 0, Nat.zero_le _, rfl, rfl, fun h => by omega, rfl, C0.out⟩
    case round =>
      obtain ⟨i, Wk, u, hv, hi, rfl, rfl, hu, hvv, hci⟩ := hrel
      obtain ⟨a7, c7, e7⟩ := hci.co.form
      subst e7
      obtain ⟨l7, hl7⟩ : ∃ q, q = (cutAt sz ps i).2.1.length := ⟨_, rfl⟩
      rw [← hl7] at hci
      have HL7 := hid hl7
      have CI0 := hid hci
      clear hl7
      have HU := hid hu
      have HV := hid hvv
      clear hci hu hvv C0
      rw [← HL7.out]
      by_cases hlt : i < n
      · have hil : i < ps.length := by rw [← HN.out]; exact hlt
        have FR0 := hid (CI0.out.f0.trans CI0.out.f1)
        obtain ⟨b, off, rfl, m1⟩ := H1.out (by omega)
        obtain ⟨ka, kc, va, vc, P⟩ := m1 i _ (ps_at hil)
        have z1 := cell_fr FR0.out P.ck
        have z2 := cell_fr FR0.out P.cv
        have PH := hid P
        dsimp only at z1 z2
        have hki : isK (kA ps i) = true := rises_isK HR.out hil
        have HVB : Hid (hv ≤ i * 281474976710656) := hid (by rw [HV.out]; exact cutAt_have LN.out i (by omega))
        have CE : Hid (cutAt sz ps (i + 1) = if sz ≤ hv ∧ userL (kA ps i) ≠ userL (kA ps (i - 1)) then ((cutAt sz ps i).1 ++ [(cutAt sz ps i).2.1], [(kA ps i, vA ps i)], (kA ps i).length + (vA ps i).length) else ((cutAt sz ps i).1, (cutAt sz ps i).2.1 ++ [(kA ps i, vA ps i)], hv + ((kA ps i).length + (vA ps i).length))) := hid (by rw [HV.out, cutAt])
        have LL0 := hid (cutAt_len (sz := sz) (ps := ps) i)
        clear P m1
        obtain ⟨k, hkk⟩ : ∃ k, k = kA ps i := ⟨_, rfl⟩
        obtain ⟨vl, hvl⟩ : ∃ vl, vl = vA ps i := ⟨_, rfl⟩
        have HKK := hid hkk
        rw [← hkk] at z1 PH CE hki
        rw [← hvl] at z2 PH CE
        clear hkk hvl
        obtain ⟨W, hW⟩ : ∃ W, W = wr.alloc (.cells #[.slice ka k.length kc, .slice va vl.length vc] 50) := ⟨_, rfl⟩
        have FW : Hid (Fr [] wr W) := hid (by rw [hW]; exact (Fr.refl _ _).alloc _)
        have XW : Hid (W.heap[wr.heap.size]? = some (.cells #[.slice ka k.length kc, .slice va vl.length vc] 50 (0, 0))) := hid (by rw [hW]; exact blk_new _ _)
        have RK2 : Hid (Rd W (.slice ka k.length kc) (bv k)) := hid ((PH.out.rk.fr FR0.out).fr FW.out)
        have y0 := blk_cell XW.out 0
        have y1 := blk_cell XW.out 1
        simp at y0 y1
        have SP := hid (Split_yes W RK2.out PH.out.bk hki)
        have HMAX : (if size < 1 then (1 : Int) else size) = (sz : Int) := HSZ.out.symm
        have hlt' : (i : Int) < (n : Int) := by omega
        go_upto_region 10 with fail
        rw [← hW]
        clear hW
        by_cases hge : sz ≤ hv
        · have hge' : (sz : Int) ≤ (hv : Int) := by omega
          have hi0 : 0 < i := by
            rcases Nat.eq_zero_or_pos i with h | h
            · exfalso; have h1 := HV.out; rw [h] at h1; simp [cutAt] at h1; have := SZ1.out; omega
            · exact h
          have HU1 := hid (HU.out hi0)
          have BE : Hid (∀ W v2, Fr [] wr W → W.ownsRow w.heap.size 5 1 v2 (userL k).length (bv (userL k)) → Calls Try.prog 29 #[v2, u8] W fun e w' => e = .returned (.bool (decide (userL k = u))) ∧ w' = W) := hid (fun W v2 f o => bytesEqual_c (Rd.ownB o) (Rd.ownB (ownsRow_fr CI0.out.us f)) (PH.out.bk.take _) (by rw [HU1.out]; exact (kA_by BYP.out _).1.take _))
          by_cases hu : userL k = u
          · have NX : Hid (cutAt sz ps (i + 1) = ((cutAt sz ps i).1, (cutAt sz ps i).2.1 ++ [(k, vl)], hv + (k.length + vl.length))) := hid (by rw [CE.out, if_neg (fun h => h.2 (by rw [← HU1.out]; exact hu))])
            rw [decide_eq_true hu] at BE
            have CLN : Hid ((cutAt sz ps i).2.1.length ≤ 10000) := hid (by have := LL0.out.2; omega)
            clear hu CE
            go_upto_if 42 with (first | (have zz := G9; clear zz; go_at_call 29; refine (BE.out _ _ F2.out O2.out).mono ?_; rintro e w3 ⟨rfl, h⟩; rw [h]; clear h) | (go_at_call 31; refine SP.out.mono ?_; rintro e w2 ⟨v2, rfl, o2, f2⟩; obtain ⟨sa, sc, rfl, _⟩ := ownsRow_slice o2; have F2 := hid (FW.out.trans f2); have X2 := hid (f2.at XW.out (by simp)); have O2 := hid (own_baseC o2 (B' := w.heap.size) (FR0.out.trans FW.out).size); clear o2 f2; have G9 := hid trivial))
            have CI2 := hid (CI0.out.quiet F2.out)
            have FA := hid (FR0.out.trans F2.out)
            have CP := hid (copied_c w2 (x := (k, vl)) (PH.out.rk.fr FA.out) (PH.out.rv.fr FA.out) rfl rfl PH.out.lk PH.out.lv)
            have SZ3 : Hid (Wk.heap.size ≤ w2.heap.size) := hid CI2.out.f1.size
            have z0 : w2.cell? ⟨wr.heap.size, 0, none⟩ = some (.slice ka k.length kc) := by rw [blk_cell X2.out]; rfl
            have z1 : w2.cell? ⟨wr.heap.size, 1, none⟩ = some (.slice va vl.length vc) := by rw [blk_cell X2.out]; rfl
            have HOB : Hid (wr.heap.size ∉ (.slice a7 l7 c7 : Value).ownBlock.toList) := hid (fun hm => by obtain ⟨cs', o', _⟩ := CI0.out.co; have h9 : (Value.slice a7 l7 c7).ownBlock = some wr.heap.size := by { cases hu : (Value.slice a7 l7 c7).ownBlock with | none => rw [hu] at hm; simp at hm | some q => rw [hu] at hm; simp at hm; rw [hm] }; have := (o'.lt _ h9).2; omega)
            clear BE
            go_upto_region 15 with (first
              | (at_builtin; refine wpList_appKV rfl _ _ rfl Wk.heap.size SZ5.out (.slice a7 l7 c7) _ cs5 rfl O5.out w4.heap.size rfl (blk_new _ _) (by intro u hu; simp at hu; rcases hu with rfl | rfl <;> rfl) (by have := CLN.out; omega) ?_; intro v6 w6 o6 g6; have O6 := hid o6; have G6 := hid g6; clear o6 g6)
              | (go_at_call 30; refine CP.out.mono ?_; rintro e w4 ⟨ka4, kc4, va4, vc4, rfl, ok4, ov4, f4⟩; have F45 := hid (f4.alloc (.cells #[.slice ka4 k.length kc4, .slice va4 vl.length vc4] 50)); have CI5 := hid (CI2.out.quiet F45.out); obtain ⟨cs5, o5, h5⟩ := CI5.out.co; have O5 := hid o5; have H5 := hid h5; have OK5 := hid (own_baseC (ownsRow_fr ok4 ((Fr.refl [] w4).alloc (.cells #[.slice ka4 k.length kc4, .slice va4 vl.length vc4] 50))) SZ3.out); have OV5 := hid (own_baseC (ownsRow_fr ov4 ((Fr.refl [] w4).alloc (.cells #[.slice ka4 k.length kc4, .slice va4 vl.length vc4] 50))) SZ3.out); have SZ5 := hid (Nat.le_trans SZ3.out F45.out.size); clear o5 h5 ok4 ov4 f4))
            have S5 : Fr (.slice a7 l7 c7 : Value).ownBlock.toList (w4.alloc (.cells #[.slice ka4 k.length kc4, .slice va4 vl.length vc4] 50)) w6 := (Fr.refl _ _).grown G6.out (fun q hq => .inl (by rw [hq]; simp))
            have CI6 := hid (CutI.add (x := (k, vl)) CI5.out O5.out H5.out OK5.out OV5.out PH.out.bk PH.out.bv' PH.out.lk PH.out.lv O6.out G6.out)
            have U6 := hid (own_keepF (ownsRow_fr O2.out F45.out) S5 (fun q hq hm => by
              obtain ⟨cs', T, h1, rfl⟩ := own_ty O5.out q hm
              exact own_not (ownsRow_fr O2.out F45.out) h1 (by decide) hq))
            have CI7 := hid (CI6.out.user U6.out)
            have y0 := cell_frS S5 HOB.out (cell_fr F45.out z0)
            have y1 := cell_frS S5 HOB.out (cell_fr F45.out z1)
            have HLK := PH.out.lk
            have HLV := PH.out.lv
            dsimp only at HLK HLV
            have hvb := HVB.out
            obtain ⟨kl, hkl⟩ : ∃ q, q = k.length := ⟨_, rfl⟩
            obtain ⟨wl, hwl⟩ : ∃ q, q = vl.length := ⟨_, rfl⟩
            have HKL := hid hkl
            have HWL := hid hwl
            rw [← hkl] at y0 HLK
            rw [← hwl] at y1 HLV
            clear hkl hwl z0 z1 S5 CP
            go_wp2
            go_roundw
            case rel => exact ⟨i + 1, Wk, userL k, hv + (kl + wl), by omega, by go_num, by go_num, fun _ => by rw [Nat.add_sub_cancel, HKK.out], by rw [NX.out, HKL.out, HWL.out], by rw [NX.out]; exact CI7.out⟩
            case measure => simp [intOf]; omega
          · have NX : Hid (cutAt sz ps (i + 1) = ((cutAt sz ps i).1 ++ [(cutAt sz ps i).2.1], [(k, vl)], k.length + vl.length)) := hid (by rw [CE.out, if_pos ⟨hge, fun h => hu (by rw [HU1.out]; exact h)⟩])
            rw [decide_eq_false hu] at BE
            have CLN : Hid (([] : Ps).length ≤ 10000) := hid (by simp)
            clear hu CE
            go_upto_if 42 with (first | (have zz := G9; clear zz; go_at_call 29; refine (BE.out _ _ F2.out O2.out).mono ?_; rintro e w3 ⟨rfl, h⟩; rw [h]; clear h) | (go_at_call 31; refine SP.out.mono ?_; rintro e w2 ⟨v2, rfl, o2, f2⟩; obtain ⟨sa, sc, rfl, _⟩ := ownsRow_slice o2; have F2 := hid (FW.out.trans f2); have X2 := hid (f2.at XW.out (by simp)); have O2 := hid (own_baseC o2 (B' := w.heap.size) (FR0.out.trans FW.out).size); clear o2 f2; have G9 := hid trivial))
            have CI2 := hid (CI0.out.quiet F2.out)
            obtain ⟨vs8, o8, h8⟩ := CI2.out.row
            have CI2F := hid (CI2.out.quiet ((Fr.refl [] w2).alloc (.cells #[.slice a7 l7 c7] 27)))
            have O8 := hid (ownsRow_fr o8 ((Fr.refl [] w2).alloc (.cells #[.slice a7 l7 c7] 27)))
            have H8 : Hid (∀ (j : Nat) (p : Ps), (cutAt sz ps i).1[j]? = some p → ∃ u, vs8[j]? = some u ∧ ColO (w2.alloc (.cells #[.slice a7 l7 c7] 27)) w.heap.size u p) := hid (fun j p hj => by
              obtain ⟨u, e, k⟩ := h8 j p hj
              exact ⟨u, e, k.fr ((Fr.refl [] w2).alloc _)⟩)
            have SZ8 : Hid (w.heap.size ≤ (w2.alloc (.cells #[.slice a7 l7 c7] 27)).heap.size) := hid ((FR0.out.trans F2.out).trans ((Fr.refl [] w2).alloc (.cells #[.slice a7 l7 c7] 27))).size
            clear o8 h8
            go_upto_region 14 with (at_builtin; go_loud (refine wpList_appLL rfl _ _ rfl w.heap.size SZ8.out u6 _ vs8 rfl O8.out w2.heap.size rfl (blk_new _ _) rfl (by have := LL0.out.1; omega) ?_; intro v9 w9 o9 g9; have O9 := hid o9; have G9' := hid g9; clear o9 g9))
            have CI9 := hid (CI2F.out.push O8.out H8.out O9.out G9'.out)
            have S9 : Fr u6.ownBlock.toList (w2.alloc (.cells #[.slice a7 l7 c7] 27)) w9 := (Fr.refl _ _).grown G9'.out (fun q hq => .inl (by rw [hq]; simp))
            have U9 := hid (own_keepF (ownsRow_fr O2.out ((Fr.refl [] w2).alloc (.cells #[.slice a7 l7 c7] 27))) S9 (fun q hq hm => by
              obtain ⟨cs', T, h1, rfl⟩ := own_ty O8.out q hm
              exact own_not (ownsRow_fr O2.out ((Fr.refl [] w2).alloc (.cells #[.slice a7 l7 c7] 27))) h1 (by decide) hq))
            have X9 := hid (S9.at (((Fr.refl [] w2).alloc (.cells #[.slice a7 l7 c7] 27)).at X2.out (by simp)) (fun hm => by
              obtain ⟨cs', T, h1, rfl⟩ := own_ty O8.out _ hm
              rw [((Fr.refl [] w2).alloc (.cells #[.slice a7 l7 c7] 27)).at X2.out (by simp)] at h1
              cases h1))
            have FA := hid (CI9.out.f0.trans CI9.out.f1)
            clear S9
            have CP := hid (copied_c w9 (x := (k, vl)) (PH.out.rk.fr FA.out) (PH.out.rv.fr FA.out) rfl rfl PH.out.lk PH.out.lv)
            have SZ3 : Hid (w9.heap.size ≤ w9.heap.size) := hid CI9.out.f1.size
            have z0 : w9.cell? ⟨wr.heap.size, 0, none⟩ = some (.slice ka k.length kc) := by rw [blk_cell X9.out]; rfl
            have z1 : w9.cell? ⟨wr.heap.size, 1, none⟩ = some (.slice va vl.length vc) := by rw [blk_cell X9.out]; rfl
            have HOB : Hid (wr.heap.size ∉ (.slice none 0 0 : Value).ownBlock.toList) := hid (by simp [Value.ownBlock])
            clear BE
            go_upto_region 15 with (first
              | (at_builtin; refine wpList_appKV rfl _ _ rfl w9.heap.size SZ5.out (.slice none 0 0) _ cs5 rfl O5.out w4.heap.size rfl (blk_new _ _) (by intro u hu; simp at hu; rcases hu with rfl | rfl <;> rfl) (by have := CLN.out; omega) ?_; intro v6 w6 o6 g6; have O6 := hid o6; have G6 := hid g6; clear o6 g6)
              | (go_at_call 30; refine CP.out.mono ?_; rintro e w4 ⟨ka4, kc4, va4, vc4, rfl, ok4, ov4, f4⟩; have F45 := hid (f4.alloc (.cells #[.slice ka4 k.length kc4, .slice va4 vl.length vc4] 50)); have CI5 := hid (CI9.out.quiet F45.out); obtain ⟨cs5, o5, h5⟩ := CI5.out.co; have O5 := hid o5; have H5 := hid h5; have OK5 := hid (own_baseC (ownsRow_fr ok4 ((Fr.refl [] w4).alloc (.cells #[.slice ka4 k.length kc4, .slice va4 vl.length vc4] 50))) SZ3.out); have OV5 := hid (own_baseC (ownsRow_fr ov4 ((Fr.refl [] w4).alloc (.cells #[.slice ka4 k.length kc4, .slice va4 vl.length vc4] 50))) SZ3.out); have SZ5 := hid (Nat.le_trans SZ3.out F45.out.size); clear o5 h5 ok4 ov4 f4))
            have S5 : Fr (.slice none 0 0 : Value).ownBlock.toList (w4.alloc (.cells #[.slice ka4 k.length kc4, .slice va4 vl.length vc4] 50)) w6 := (Fr.refl _ _).grown G6.out (fun q hq => .inl (by rw [hq]; simp))
            have CI6 := hid (CutI.add (x := (k, vl)) CI5.out O5.out H5.out OK5.out OV5.out PH.out.bk PH.out.bv' PH.out.lk PH.out.lv O6.out G6.out)
            have U6 := hid (own_keepF (ownsRow_fr U9.out F45.out) S5 (fun q hq hm => by
              obtain ⟨cs', T, h1, rfl⟩ := own_ty O5.out q hm
              exact own_not (ownsRow_fr U9.out F45.out) h1 (by decide) hq))
            have CI7 := hid (CI6.out.user U6.out)
            have y0 := cell_frS S5 HOB.out (cell_fr F45.out z0)
            have y1 := cell_frS S5 HOB.out (cell_fr F45.out z1)
            have HLK := PH.out.lk
            have HLV := PH.out.lv
            dsimp only at HLK HLV
            have hvb := HVB.out
            obtain ⟨kl, hkl⟩ : ∃ q, q = k.length := ⟨_, rfl⟩
            obtain ⟨wl, hwl⟩ : ∃ q, q = vl.length := ⟨_, rfl⟩
            have HKL := hid hkl
            have HWL := hid hwl
            rw [← hkl] at y0 HLK
            rw [← hwl] at y1 HLV
            clear hkl hwl z0 z1 S5 CP
            go_wp2
            go_roundw
            case rel => exact ⟨i + 1, w9, userL k, kl + wl, by omega, by go_num, by go_num, fun _ => by rw [Nat.add_sub_cancel, HKK.out], by rw [NX.out, HKL.out, HWL.out], by rw [NX.out]; exact CI7.out⟩
            case measure => simp [intOf]; omega
        · have hge' : ¬ (sz : Int) ≤ (hv : Int) := by omega
          have NX : Hid (cutAt sz ps (i + 1) = ((cutAt sz ps i).1, (cutAt sz ps i).2.1 ++ [(k, vl)], hv + (k.length + vl.length))) := hid (by rw [CE.out, if_neg (fun h => hge h.1)])
          have CLN : Hid ((cutAt sz ps i).2.1.length ≤ 10000) := hid (by have := LL0.out.2; omega)
          clear CE
          go_upto_if 42 with (go_at_call 31; refine SP.out.mono ?_; rintro e w2 ⟨v2, rfl, o2, f2⟩; obtain ⟨sa, sc, rfl, _⟩ := ownsRow_slice o2; have F2 := hid (FW.out.trans f2); have X2 := hid (f2.at XW.out (by simp)); have O2 := hid (own_baseC o2 (B' := w.heap.size) (FR0.out.trans FW.out).size); clear o2 f2)
          have CI2 := hid (CI0.out.quiet F2.out)
          have FA := hid (FR0.out.trans F2.out)
          have CP := hid (copied_c w2 (x := (k, vl)) (PH.out.rk.fr FA.out) (PH.out.rv.fr FA.out) rfl rfl PH.out.lk PH.out.lv)
          have SZ3 : Hid (Wk.heap.size ≤ w2.heap.size) := hid CI2.out.f1.size
          have z0 : w2.cell? ⟨wr.heap.size, 0, none⟩ = some (.slice ka k.length kc) := by rw [blk_cell X2.out]; rfl
          have z1 : w2.cell? ⟨wr.heap.size, 1, none⟩ = some (.slice va vl.length vc) := by rw [blk_cell X2.out]; rfl
          have HOB : Hid (wr.heap.size ∉ (.slice a7 l7 c7 : Value).ownBlock.toList) := hid (fun hm => by obtain ⟨cs', o', _⟩ := CI0.out.co; have h9 : (Value.slice a7 l7 c7).ownBlock = some wr.heap.size := by { cases hu : (Value.slice a7 l7 c7).ownBlock with | none => rw [hu] at hm; simp at hm | some q => rw [hu] at hm; simp at hm; rw [hm] }; have := (o'.lt _ h9).2; omega)
          clear hge
          go_upto_region 15 with (first
            | (at_builtin; refine wpList_appKV rfl _ _ rfl Wk.heap.size SZ5.out (.slice a7 l7 c7) _ cs5 rfl O5.out w4.heap.size rfl (blk_new _ _) (by intro u hu; simp at hu; rcases hu with rfl | rfl <;> rfl) (by have := CLN.out; omega) ?_; intro v6 w6 o6 g6; have O6 := hid o6; have G6 := hid g6; clear o6 g6)
            | (go_at_call 30; refine CP.out.mono ?_; rintro e w4 ⟨ka4, kc4, va4, vc4, rfl, ok4, ov4, f4⟩; have F45 := hid (f4.alloc (.cells #[.slice ka4 k.length kc4, .slice va4 vl.length vc4] 50)); have CI5 := hid (CI2.out.quiet F45.out); obtain ⟨cs5, o5, h5⟩ := CI5.out.co; have O5 := hid o5; have H5 := hid h5; have OK5 := hid (own_baseC (ownsRow_fr ok4 ((Fr.refl [] w4).alloc (.cells #[.slice ka4 k.length kc4, .slice va4 vl.length vc4] 50))) SZ3.out); have OV5 := hid (own_baseC (ownsRow_fr ov4 ((Fr.refl [] w4).alloc (.cells #[.slice ka4 k.length kc4, .slice va4 vl.length vc4] 50))) SZ3.out); have SZ5 := hid (Nat.le_trans SZ3.out F45.out.size); clear o5 h5 ok4 ov4 f4))
          have S5 : Fr (.slice a7 l7 c7 : Value).ownBlock.toList (w4.alloc (.cells #[.slice ka4 k.length kc4, .slice va4 vl.length vc4] 50)) w6 := (Fr.refl _ _).grown G6.out (fun q hq => .inl (by rw [hq]; simp))
          have CI6 := hid (CutI.add (x := (k, vl)) CI5.out O5.out H5.out OK5.out OV5.out PH.out.bk PH.out.bv' PH.out.lk PH.out.lv O6.out G6.out)
          have U6 := hid (own_keepF (ownsRow_fr O2.out F45.out) S5 (fun q hq hm => by
            obtain ⟨cs', T, h1, rfl⟩ := own_ty O5.out q hm
            exact own_not (ownsRow_fr O2.out F45.out) h1 (by decide) hq))
          have CI7 := hid (CI6.out.user U6.out)
          have y0 := cell_frS S5 HOB.out (cell_fr F45.out z0)
          have y1 := cell_frS S5 HOB.out (cell_fr F45.out z1)
          have HLK := PH.out.lk
          have HLV := PH.out.lv
          dsimp only at HLK HLV
          have hvb := HVB.out
          obtain ⟨kl, hkl⟩ : ∃ q, q = k.length := ⟨_, rfl⟩
          obtain ⟨wl, hwl⟩ : ∃ q, q = vl.length := ⟨_, rfl⟩
          have HKL := hid hkl
          have HWL := hid hwl
          rw [← hkl] at y0 HLK
          rw [← hwl] at y1 HLV
          clear hkl hwl z0 z1 S5 CP
          go_wp2
          go_roundw
          case rel => exact ⟨i + 1, Wk, userL k, hv + (kl + wl), by omega, by go_num, by go_num, fun _ => by rw [Nat.add_sub_cancel, HKK.out], by rw [NX.out, HKL.out, HWL.out], by rw [NX.out]; exact CI7.out⟩
          case measure => simp [intOf]; omega
      · have hin : i = n := by omega
        subst hin
        have hlt' : ¬ (i : Int) < (i : Int) := by omega
        have FR0 := hid (CI0.out.f0.trans CI0.out.f1)
        by_cases h0 : i = 0
        · have hl0 : l7 = 0 := by rw [HL7.out, h0]; rfl
          have PC : Hid (RdLL wr u6 (cutF sz ps)) := hid (by
            have h1 := (CI0.out.pc.fr CI0.out.f1).rd
            rw [h0] at h1
            have h2 : cutF sz ps = [] := by unfold cutF; rw [if_pos (by rw [← HN.out]; exact h0)]
            rw [h2]; exact h1)
          subst hl0
          clear h0
          go_wp2
          go_ret2
          exact ⟨.inl ⟨HR.out, _, rfl, PC.out⟩, FR0.out⟩
        · have hl0 : 0 < l7 := by
            rw [HL7.out]
            rcases Nat.eq_zero_or_pos (cutAt sz ps i).2.1.length with h | h
            · exact absurd ((cutAt_ok (ps := ps) SZ1.out i (by rw [HN.out]; exact Nat.le_refl _)).2.2.2 (List.eq_nil_of_length_eq_zero h)).1 h0
            · exact h
          have hl0' : (0 : Int) < (l7 : Int) := by omega
          have LL0 := hid (cutAt_len (sz := sz) (ps := ps) i)
          obtain ⟨vs8, o8, h8⟩ := CI0.out.row
          have CI2F := hid (CI0.out.quiet ((Fr.refl [] wr).alloc (.cells #[.slice a7 l7 c7] 27)))
          have O8 := hid (ownsRow_fr o8 ((Fr.refl [] wr).alloc (.cells #[.slice a7 l7 c7] 27)))
          have H8 : Hid (∀ (j : Nat) (p : Ps), (cutAt sz ps i).1[j]? = some p → ∃ u, vs8[j]? = some u ∧ ColO (wr.alloc (.cells #[.slice a7 l7 c7] 27)) w.heap.size u p) := hid (fun j p hj => by
            obtain ⟨u, e, k⟩ := h8 j p hj
            exact ⟨u, e, k.fr ((Fr.refl [] wr).alloc _)⟩)
          have SZ8 : Hid (w.heap.size ≤ (wr.alloc (.cells #[.slice a7 l7 c7] 27)).heap.size) := hid (FR0.out.trans ((Fr.refl [] wr).alloc (.cells #[.slice a7 l7 c7] 27))).size
          clear o8 h8
          go_upto_region 20 with (at_builtin; refine wpList_appLL rfl _ _ rfl w.heap.size SZ8.out u6 _ vs8 rfl O8.out wr.heap.size rfl (blk_new _ _) rfl (by have := LL0.out.1; omega) ?_; intro v9 w9 o9 g9; have O9 := hid o9; have G9' := hid g9; clear o9 g9)
          have CI9 := hid (CI2F.out.push O8.out H8.out O9.out G9'.out)
          have PC : Hid (RdLL w9 v9 (cutF sz ps)) := hid (by
            have h1 := CI9.out.pc.rd
            have h2 : cutF sz ps = (cutAt sz ps i).1 ++ [(cutAt sz ps i).2.1] := by unfold cutF; rw [if_neg (by rw [← HN.out]; exact h0), HN.out]
            rw [h2]; exact h1)
          clear h0
          go_wp2
          go_ret2
          exact ⟨.inl ⟨HR.out, _, rfl, PC.out⟩, CI9.out.f0⟩
  · have HR := hid hr
    have F2 := hid f2
    clear hr f2 RI
    go_wp2
    go_ret2
    exact ⟨.inr ⟨HR.out, rfl⟩, F2.out⟩
end Go.Proofs.Ythmlpjogbdpgiaa
