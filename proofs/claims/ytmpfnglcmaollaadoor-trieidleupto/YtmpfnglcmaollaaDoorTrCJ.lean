/-
  TrieIdle, walked.
-/
import Derived.Test.YtmpfnglcmaollaaDoorJ37
import Derived.Test.YtmpfnglcmaollaaDoorTrAJ
namespace Go.Proofs.YtmpfnglcmaollaaDoor
open Go.ChangeShapes Go.WideShapes Go.ChangeAt Go.RowKit

theorem EsO.en {W : World} {B : Nat} {v : Value} {es : List En} (h : EsO W B v es) {e : En} (he : e ∈ es) : EnO W B e := h.2 e he
theorem en_mem {es : List En} {e : En} (h : e ∈ es) : (e.k, e.v) ∈ es.map En.p := List.mem_map.2 ⟨e, h, rfl⟩
set_option maxRecDepth 20000 in
set_option maxHeartbeats 12800000 in
theorem idle_c (w : World) (HT : Tabs w) {lv kv : Value} {ls : List (List Nat × List Nat)} {key : List Nat} (h : RdS w lv ls) (hl : ls.length ≤ 140737488355328) (hk : Rd w kv (bv key)) (hkb : By key) (hkl : key.length ≤ 140737488355328) :
    Calls Tryd.prog 6 #[lv, kv] w fun e w' => e = .returned (.bool true) ∧ Fr [] w w' := by
  obtain ⟨f, hf⟩ : ∃ f, f = hashOf [128] := ⟨_, rfl⟩
  obtain ⟨ka, kc, e1⟩ := hk.form
  rw [bv_len] at e1
  subst e1
  have HTH := hid HT
  have HK := hid hk
  have HKB := hid hkb
  have HL := hid h
  have HF0 := hid hf
  have KN := hid (known_c w HT f hf (hashOf trRX) rfl)
  have FW := hid (fun (w1 : World) (f1 : Fr [] w w1) => few_c w1 (h.fr f1) hl)
  have EM := hid (fun (w1 : World) (g : Fr [] w w1) => empty_c w1 (HT.fr g))
  rw [← hf] at EM
  have NW := hid (fun (w1 : World) (g : Fr [] w w1) => new_cT w1 (HT.fr g) f hf)
  obtain ⟨la, lc, rfl, hst⟩ := h
  have HST := hid hst
  clear hk hkb HT hf hst
  obtain ⟨nl, hnl⟩ : ∃ n, n = ls.length := ⟨_, rfl⟩
  have HNL := hid hnl
  obtain ⟨nk, hnk⟩ : ∃ n, n = key.length := ⟨_, rfl⟩
  have HNK := hid hnk
  rw [← hnl] at FW hl HL ⊢
  rw [← hnk] at HK hkl ⊢
  clear hnl hnk
  go_enter Tryd.func6, Tryd.ntmps6
  go_wp2_with fail
  refine KN.out.mono ?_
  rintro e w1 ⟨rfl, f1⟩
  have F1 := hid f1
  clear f1 KN
  go_wp2_with fail
  refine (FW.out _ F1.out).mono ?_
  rintro e w2 ⟨⟨b, rfl, hb⟩, f2⟩
  have F2 := hid (F1.out.trans f2)
  clear f2 FW
  cases b with
  | false =>
    go_wp2
    go_ret
    exact ⟨rfl, F2.out⟩
  | true =>
    have hl40 : nl ≤ 40 := hb rfl
    clear hb
    go_upto_region 5 with fail
    go_upto_region 7 with (first
      | (go_at_call 12; refine (EM.out _ F2.out).mono ?_; rintro e w3 ⟨rfl, f3⟩; have F3 := hid (F2.out.trans f3); clear f3)
      | (go_at_call 11; refine (NW.out _ F3.out).mono ?_; rintro e w4 ⟨tb, gv, rfl, hT, hb, f4⟩; have HTI := hid hT; have HTB := hid (Nat.le_trans F3.out.size hb); have F4 := hid (F3.out.trans f4); clear hT hb f4 NW))
    obtain ⟨B, hB⟩ : ∃ B, B = w4.heap.size := ⟨_, rfl⟩
    have HTbB : Hid (tb < B) := hid (by rw [hB]; obtain ⟨⟨rv, h1, _⟩, _, _, _⟩ := HTI.out; exact (Array.getElem?_eq_some_iff.1 h1).1)
    have HB4 := hid hB
    clear hB
    go_wp2_with fail
    go_loopw [6, 7] (fun v6 v7 wr => ∃ (i : Nat) (S : Nat → Prop) (n : Nd) (es : List En), i ≤ nl ∧ v7 = .int .i64 (i : Int) ∧ TrieI S wr tb gv n ∧ EsO wr B v6 es ∧ IsMap (es.map En.p) n ∧ es.length ≤ i ∧ B ≤ wr.heap.size ∧ Fr [] w wr) (fun _ v7 _ => nl - (intOf v7).toNat)
    case atStart => exact ⟨0, _, _, [], Nat.zero_le _, rfl, HTI.out, EsO.nil _ _, IsMap.nil, Nat.le_refl _, by rw [HB4.out]; exact Nat.le_refl _, F4.out⟩
    case round =>
      obtain ⟨i, S, n, es, hi, rfl, ht, hm, him, hel, hbs, hf⟩ := hrel
      have HF := hid hf
      have HTR := hid ht
      have HM := hid hm
      have HIM := hid him
      have HBS := hid hbs
      clear hf ht hm him hbs HTI
      have OV := hid (fun (w' : World) (f : Fr [tb] wr w') => (HF.out.overT f HTB.out : Fr [] w w'))
      by_cases hlt : i < nl
      · obtain ⟨x, hx⟩ : ∃ x, ls[i]? = some x := ⟨_, List.getElem?_eq_getElem (by rw [← HNL.out]; exact hlt)⟩
        obtain ⟨b, off, rfl, m1⟩ := HST.out (by have := HNL.out; omega)
        obtain ⟨xa, xc, va, vc, P⟩ := m1 i x hx
        have z0 := (P.fr HF.out).ck
        have z1 := (P.fr HF.out).cv
        have HP := hid P
        have DO := hid (does_c wr (fun w' f => HTH.out.fr (OV.out w' f)) HTR.out HM.out HIM.out HTbB.out HBS.out (by omega) (fun w' f => P.rk.fr (OV.out w' f)) P.bk P.lk (fun w' f => P.rv.fr (OV.out w' f)) P.bv' P.lv)
        clear P m1 hx
        have hii : (i : Int) < (nl : Int) := by omega
        go_wp2_with (go_at_call 13; refine DO.out.mono ?_; rintro e w5 ⟨mv', rfl, S', es', n', ht', hm', him', hl', f5⟩; have HF5 := hid (OV.out _ f5); have SZ := hid (Nat.le_trans HBS.out f5.size); have HM' := hid hm'; have HT' := hid ht'; have HIM' := hid him'; clear f5 hm' ht' him')
        exact ⟨⟨i + 1, S', n', es', by omega, by go_num, HT'.out, HM'.out, HIM'.out, by omega, SZ.out, HF5.out⟩, by simp [intOf]; omega⟩
      · have hin : i = nl := by omega
        obtain ⟨ma, mc, rfl⟩ : ∃ ma mc, u6 = .slice ma es.length mc := by
          rcases HM.out.1.2 with ⟨h1, h0⟩ | ⟨g, cap, cur, e0, _⟩
          · exact ⟨none, 0, by rw [h0]; exact h1⟩
          · exact ⟨_, _, e0⟩
        obtain ⟨ne, hne⟩ : ∃ n, n = es.length := ⟨_, rfl⟩
        have HNE := hid hne
        rw [← hne] at HM hel ⊢
        clear hne
        obtain ⟨G, hG⟩ : ∃ G, G = hashOf (encN n) := ⟨_, rfl⟩
        have RT := hid (fun (w1 : World) (S1 : Nat → Prop) (h : TrieI S1 w1 tb gv n) (f1 : Fr [] w w1) => rootAll_c w1 h (HTH.out.fr f1))
        rw [← hG] at RT
        clear hG
        go_wp2_with fail
        refine (RT.out _ _ HTR.out HF.out).mono ?_
        rintro e w7 ⟨rfl, f7⟩
        have F7 := hid (HF.out.trans f7)
        have HT7 := hid (HTR.out.fr f7)
        have HM7 := hid (HM.out.fr f7)
        have SZ7 := hid (Nat.le_trans HBS.out f7.size)
        clear f7
        rename_i hK
        refine hK _ _ ?_
        refine wpList_made32T (t1 := 8) (t2 := 36) (g := G) rfl rfl rfl rfl rfl rfl (by simp [Act.eval, Act.put]) (by simp [Act.eval, Act.put]) ?_
        have FA : Fr [] w7 (w7.alloc (.cells (bvals 32 G) 28)) := (Fr.refl _ _).alloc _
        have HR8 : Hid ((w7.alloc (.cells (bvals 32 G) 28)).heap[w7.heap.size]? = some (.cells (bvals 32 G) 28 (0, 0))) := hid (blk_new _ _)
        have F8 : Hid (Fr [] w (w7.alloc (.cells (bvals 32 G) 28))) := hid (F7.out.alloc _)
        have HT8 := hid (HT7.out.fr FA)
        have HM8 := hid (HM7.out.fr FA)
        have SZ8 := hid (Nat.le_trans SZ7.out FA.size)
        clear FA
        obtain ⟨R, hR⟩ : ∃ R, R = w7.heap.size := ⟨_, rfl⟩
        have HRB : Hid (tb ≠ R) := hid (by have := HTbB.out; have := SZ7.out; omega)
        rw [← hR] at HR8 ⊢
        generalize w7.alloc (.cells (bvals 32 G) 28) = w8 at HR8 F8 HT8 HM8 SZ8 ⊢
        clear hK HT7 HM7 SZ7 HTR HM HBS OV hR F7
        go_wp2_with fail
        go_loopw [9] (fun v9 wr' => ∃ (j : Nat) (S' : Nat → Prop), j ≤ ne ∧ v9 = .int .i64 (j : Int) ∧ TrieI S' wr' tb gv n ∧ EsO wr' B (.slice ma ne mc) es ∧ wr'.heap[R]? = some (.cells (bvals 32 G) 28 (0, 0)) ∧ B ≤ wr'.heap.size ∧ Fr [] w wr') (fun v9 _ => ne - (intOf v9).toNat)
        case atStart => exact ⟨0, _, Nat.zero_le _, rfl, HT8.out, HM8.out, HR8.out, SZ8.out, F8.out⟩
        case round =>
          obtain ⟨j, S', hj, rfl, ht, hm, hr, hbs, hf⟩ := hrel
          have HFj := hid hf
          have HTj := hid ht
          have HMj := hid hm
          have HRj := hid hr
          have HSj := hid hbs
          clear hf ht hm hr hbs HT8 HM8 HR8 SZ8
          by_cases hlt2 : j < ne
          · have hjl : (j : Int) < (ne : Int) := by omega
            obtain ⟨x, hx⟩ : ∃ x, es[j]? = some x := ⟨_, List.getElem?_eq_getElem (by rw [← HNE.out]; exact hlt2)⟩
            obtain ⟨g', c', e', c0, c1, hen⟩ := HMj.out.at' hx
            simp only [Value.slice.injEq] at e'
            obtain ⟨rfl, hd2, rfl⟩ := e'
            clear hd2
            have HX := hid hx
            have SK := hid (fun (w' : World) (f : Fr [tb] wr w') => show w'.cell? ⟨g', j * 2, none⟩ = some x.kv ∧ w'.cell? ⟨g', j * 2 + 1, none⟩ = some x.vv ∧ w'.heap[R]? = some (.cells (bvals 32 G) 28 (0, 0)) from by
              obtain ⟨g2, c2, e2, d0, d1, _⟩ := (HMj.out.keep f (fun k hk => by have := List.mem_singleton.1 hk; have := HTbB.out; omega)).at' HX.out
              simp only [Value.slice.injEq, Option.some.injEq, Addr.mk.injEq, and_true] at e2
              obtain ⟨rfl, _⟩ := e2
              exact ⟨d0, d1, f.at HRj.out (fun hm => HRB.out (List.mem_singleton.1 hm).symm)⟩)
            have HEN := hid hen
            have SM := hid (HIM.out.same (en_mem (List.mem_of_getElem? hx)))
            have HLN := hid (HIM.out.lens _ (en_mem (List.mem_of_getElem? hx)))
            clear c0 c1 hx hen
            go_upto_region 15 with fail
            have FD : Hid (Fr [] wr wr.drew) := hid (Fr.refl _ _).drew
            have FDw := hid (HFj.out.trans FD.out)
            have SKD := SK.out _ (FD.out.mono (by simp))
            refine wp_region_held_drew (S := fun w' => w'.cell? ⟨g', j * 2, none⟩ = some x.kv ∧ w'.cell? ⟨g', j * 2 + 1, none⟩ = some x.vv ∧ w'.heap[R]? = some (.cells (bvals 32 G) 28 (0, 0))) (by kernel_rfl) SKD (fun hS => ?_)
            clear SKD
            refine wpAnyH_take (i := 0) (v := .pointer (some ⟨tb, 0, none⟩)) rfl (by kernel_rfl) (by kernel_rfl) (by kernel_rfl) (fun _ _ _ h => h) (.inl ⟨by rfl, fun wx _ => by go_simp⟩) hS ?_
            simp only [Act.put, List.getElem_toArray, List.getElem_cons_zero, List.setIfInBounds_toArray, List.set_cons_succ, List.set_cons_zero]
            refine wpAnyH_take (i := 1) (v := .slice (some ⟨g', 0, none⟩) ne mc) rfl (by kernel_rfl) (by kernel_rfl) (by kernel_rfl) (fun _ _ _ h => h) (.inl ⟨by rfl, fun wx _ => by go_simp⟩) hS ?_
            simp only [Act.put, List.getElem_toArray, List.getElem_cons_succ, List.getElem_cons_zero, List.setIfInBounds_toArray, List.set_cons_succ, List.set_cons_zero]
            refine wpAnyH_take (i := 2) (v := .int .i64 (j : Int)) rfl (by kernel_rfl) (by kernel_rfl) (by kernel_rfl) (fun _ _ _ h => h) (.inl ⟨by rfl, fun wx _ => by go_simp⟩) hS ?_
            simp only [Act.put, List.getElem_toArray, List.getElem_cons_succ, List.getElem_cons_zero, List.setIfInBounds_toArray, List.set_cons_succ, List.set_cons_zero]
            refine wpAnyH_take (i := 3) (v := .pointer (some ⟨g', j * 2, none⟩)) rfl (by kernel_rfl) (by kernel_rfl) (by kernel_rfl) (fun _ _ _ h => h) (.inl ⟨by rfl, fun wx _ => by go_simp⟩) hS ?_
            simp only [Act.put, List.getElem_toArray, List.getElem_cons_succ, List.getElem_cons_zero, List.setIfInBounds_toArray, List.set_cons_succ, List.set_cons_zero]
            refine wpAnyH_take (i := 4) (v := .pointer (some ⟨g', j * 2, none⟩)) rfl (by kernel_rfl) (by kernel_rfl) (by kernel_rfl) (fun _ _ _ h => h) (.inl ⟨by rfl, fun wx _ => by go_simp⟩) hS ?_
            simp only [Act.put, List.getElem_toArray, List.getElem_cons_succ, List.getElem_cons_zero, List.setIfInBounds_toArray, List.set_cons_succ, List.set_cons_zero]
            refine wpAnyH_take (i := 5) (v := x.kv) rfl (by kernel_rfl) (by kernel_rfl) (by kernel_rfl) (fun _ _ _ h => h) (.inl ⟨by rfl, fun wx hX => by obtain ⟨x0, x1, x2⟩ := hX; go_simp⟩) hS ?_
            simp only [Act.put, List.getElem_toArray, List.getElem_cons_succ, List.getElem_cons_zero, List.setIfInBounds_toArray, List.set_cons_succ, List.set_cons_zero]
            refine wpAnyH_take (i := 6) (v := .slice (some ⟨g', 0, none⟩) ne mc) rfl (by kernel_rfl) (by kernel_rfl) (by kernel_rfl) (fun _ _ _ h => h) (.inl ⟨by rfl, fun wx _ => by go_simp⟩) hS ?_
            simp only [Act.put, List.getElem_toArray, List.getElem_cons_succ, List.getElem_cons_zero, List.setIfInBounds_toArray, List.set_cons_succ, List.set_cons_zero]
            refine wpAnyH_take (i := 7) (v := .int .i64 (j : Int)) rfl (by kernel_rfl) (by kernel_rfl) (by kernel_rfl) (fun _ _ _ h => h) (.inl ⟨by rfl, fun wx _ => by go_simp⟩) hS ?_
            simp only [Act.put, List.getElem_toArray, List.getElem_cons_succ, List.getElem_cons_zero, List.setIfInBounds_toArray, List.set_cons_succ, List.set_cons_zero]
            refine wpAnyH_take (i := 8) (v := .pointer (some ⟨g', j * 2, none⟩)) rfl (by kernel_rfl) (by kernel_rfl) (by kernel_rfl) (fun _ _ _ h => h) (.inl ⟨by rfl, fun wx _ => by go_simp⟩) hS ?_
            simp only [Act.put, List.getElem_toArray, List.getElem_cons_succ, List.getElem_cons_zero, List.setIfInBounds_toArray, List.set_cons_succ, List.set_cons_zero]
            refine wpAnyH_take (i := 9) (v := .pointer (some ⟨g', j * 2 + 1, none⟩)) rfl (by kernel_rfl) (by kernel_rfl) (by kernel_rfl) (fun _ _ _ h => h) (.inl ⟨by rfl, fun wx _ => by go_simp⟩) hS ?_
            simp only [Act.put, List.getElem_toArray, List.getElem_cons_succ, List.getElem_cons_zero, List.setIfInBounds_toArray, List.set_cons_succ, List.set_cons_zero]
            refine wpAnyH_take (i := 10) (v := x.vv) rfl (by kernel_rfl) (by kernel_rfl) (by kernel_rfl) (fun _ _ _ h => h) (.inl ⟨by rfl, fun wx hX => by obtain ⟨x0, x1, x2⟩ := hX; go_simp⟩) hS ?_
            simp only [Act.put, List.getElem_toArray, List.getElem_cons_succ, List.getElem_cons_zero, List.setIfInBounds_toArray, List.set_cons_succ, List.set_cons_zero]
            clear hS
            refine wpAnyH_ready (rs := [11]) (by kernel_rfl) (by simp) ?_
            refine AllReadyH.cons rfl (fun K hK => ?_) AllReadyH.nil
            go_simp
            go_at_call 29
            refine (Put_c _ (HTH.out.fr FDw.out) (HTj.out.fr FD.out) ((Rd.ownB HEN.out.ok).fr FD.out) HEN.out.bk HEN.out.lk ((Rd.ownB HEN.out.ov).fr FD.out) HEN.out.bv' HLN.out.2.2.2.1 HLN.out.2.2.2.2).mono ?_
            rintro e w9 ⟨rfl, ⟨S9, t9, _⟩, f9⟩
            rw [SM.out] at t9
            have HT9 := hid t9
            have FT9 := hid ((FD.out.mono (show ∀ k ∈ ([] : List Nat), k ∈ [tb] by simp)).trans f9)
            have F9 := hid (HFj.out.overT FT9.out HTB.out)
            clear t9 f9
            go_simp
            have hS := SK.out _ FT9.out
            refine hK.out _ _ hS (fun _ => ?_)
            clear hK K
            refine wpAnyH_take (i := 12) (v := .bool false) rfl (by kernel_rfl) (by kernel_rfl) (by kernel_rfl) (fun _ _ _ h => h) (.inl ⟨by rfl, fun wx _ => by go_simp⟩) hS ?_
            simp only [Act.put, List.getElem_toArray, List.getElem_cons_succ, List.getElem_cons_zero, List.setIfInBounds_toArray, List.set_cons_succ, List.set_cons_zero]
            refine wpAnyH_take (i := 13) (v := .bool false) rfl (by kernel_rfl) (by kernel_rfl) (by kernel_rfl) (fun _ _ _ h => h) (.inl ⟨by rfl, fun wx _ => by go_simp⟩) hS ?_
            simp only [Act.put, List.getElem_toArray, List.getElem_cons_succ, List.getElem_cons_zero, List.setIfInBounds_toArray, List.set_cons_succ, List.set_cons_zero]
            refine wpAnyH_take (i := 14) (v := .pointer (some ⟨tb, 0, none⟩)) rfl (by kernel_rfl) (by kernel_rfl) (by kernel_rfl) (fun _ _ _ h => h) (.inl ⟨by kernel_rfl, fun wx _ => by go_simp⟩) hS ?_
            simp only [Act.put, List.getElem_toArray, List.getElem_cons_succ, List.getElem_cons_zero, List.setIfInBounds_toArray, List.set_cons_succ, List.set_cons_zero]
            refine wpAnyH_take (i := 16) (v := .agg (bvals 32 G)) rfl (by kernel_rfl) (by kernel_rfl) (by kernel_rfl) (fun _ _ _ h => h) (.inl ⟨by kernel_rfl, fun wx hX => by have x0 := ldVar32 hX.2.2; simp [execOp, Act.eval, Instr.loadAt, Instr.sureAddr, x0]⟩) hS ?_
            simp only [Act.put, List.getElem_toArray, List.getElem_cons_succ, List.getElem_cons_zero, List.setIfInBounds_toArray, List.set_cons_succ, List.set_cons_zero]
            clear hS
            refine wpAnyH_ready (rs := [15]) (by kernel_rfl) (by simp) ?_
            refine AllReadyH.cons rfl (fun K hK => ?_) AllReadyH.nil
            go_simp
            go_at_call 15
            refine (RT.out _ _ HT9.out F9.out).mono ?_
            rintro e w10 ⟨rfl, f10⟩
            have HT10 := hid (HT9.out.fr f10)
            have FT10 := hid (FT9.out.trans (f10.mono (show ∀ k ∈ ([] : List Nat), k ∈ [tb] by simp)))
            have F10 := hid (F9.out.trans f10)
            clear f10
            go_simp
            have hS := SK.out _ FT10.out
            refine hK.out _ _ hS (fun _ => ?_)
            clear hK K
            refine wpAnyH_take (i := 17) (v := .bool false) rfl (by kernel_rfl) (by kernel_rfl) (by kernel_rfl) (fun _ _ _ h => h) (.inl ⟨by kernel_rfl, fun wx _ => by have x0 := eqIn32 wx G G (fun _ _ => rfl); go_simp⟩) hS ?_
            simp only [Act.put, List.getElem_toArray, List.getElem_cons_succ, List.getElem_cons_zero, List.setIfInBounds_toArray, List.set_cons_succ, List.set_cons_zero]
            refine wpAnyH_take (i := 18) (v := .bool false) rfl (by kernel_rfl) (by kernel_rfl) (by kernel_rfl) (fun _ _ _ h => h) (.inl ⟨by rfl, fun wx _ => by go_simp⟩) hS ?_
            simp only [Act.put, List.getElem_toArray, List.getElem_cons_succ, List.getElem_cons_zero, List.setIfInBounds_toArray, List.set_cons_succ, List.set_cons_zero]
            refine wpAnyH_done (by kernel_rfl) ?_ _
            clear hS
            go_wp2
            exact ⟨⟨j + 1, S9, by omega, by go_num, HT10.out, HMj.out.keep FT10.out (fun k hk => by have := List.mem_singleton.1 hk; have := HTbB.out; omega), (SK.out _ FT10.out).2.2, Nat.le_trans HSj.out FT10.out.size, F10.out⟩, by simp [intOf]; omega⟩
          · have hje : j = ne := by omega
            subst hje
            have SKN := hid (fun (w' : World) (f : Fr [tb] wr w') => show w'.heap[R]? = some (.cells (bvals 32 G) 28 (0, 0)) from f.at HRj.out (fun hm => HRB.out (List.mem_singleton.1 hm).symm))
            go_wp2_with fail
            refine (rfind_c _ HMj.out (by have := HNE.out; omega) (HK.out.fr HFj.out) HKB.out).mono ?_
            rintro e w9 ⟨⟨fv, b, rfl, hfo⟩, f9⟩
            have FT9 := hid (f9.mono (show ∀ k ∈ ([] : List Nat), k ∈ [tb] by simp))
            have F9 := hid (HFj.out.trans f9)
            have HT9 := hid (HTj.out.fr f9)
            clear f9
            rcases hfo with ⟨rfl, _⟩ | ⟨rfl, hno⟩
            · go_upto_region 20 with fail
              have hS := SKN.out _ (FT9.out.trans ((Fr.refl _ _).drew.mono (show ∀ k ∈ ([] : List Nat), k ∈ [tb] by simp)))
              refine wp_region_held_drew (S := fun w' => w'.heap[R]? = some (.cells (bvals 32 G) 28 (0, 0))) (by kernel_rfl) hS (fun hS => ?_)
              refine wpAnyH_take (i := 0) (v := .pointer (some ⟨tb, 0, none⟩)) rfl (by kernel_rfl) (by kernel_rfl) (by kernel_rfl) (fun _ _ _ h => h) (.inl ⟨by rfl, fun wx _ => by go_simp⟩) hS ?_
              simp only [Act.put, List.getElem_toArray, List.getElem_cons_zero, List.setIfInBounds_toArray, List.set_cons_succ, List.set_cons_zero]
              refine wpAnyH_take (i := 2) (v := .agg (bvals 32 G)) rfl (by kernel_rfl) (by kernel_rfl) (by kernel_rfl) (fun _ _ _ h => h) (.inl ⟨by rfl, fun wx hX => by have x0 := ldVar32 hX; simp [execOp, Act.eval, Instr.loadAt, Instr.sureAddr, x0]⟩) hS ?_
              simp only [Act.put, List.getElem_toArray, List.getElem_cons_succ, List.getElem_cons_zero, List.setIfInBounds_toArray, List.set_cons_succ, List.set_cons_zero]
              refine wpAnyH_ready (rs := [1]) (by kernel_rfl) (by simp) ?_
              refine AllReadyH.cons rfl (fun K hK => ?_) AllReadyH.nil
              go_simp
              go_at_call 15
              refine (RT.out _ _ (HT9.out.fr (Fr.refl _ _).drew) F9.out.drew).mono ?_
              rintro e w20 ⟨rfl, f20⟩
              have F20 := hid (F9.out.drew.trans f20)
              have hS2 := SKN.out _ (FT9.out.trans (((Fr.refl _ _).drew.trans f20).mono (show ∀ k ∈ ([] : List Nat), k ∈ [tb] by simp)))
              clear f20
              go_simp
              refine hK.out _ _ hS2 (fun _ => ?_)
              clear hK K
              refine wpAnyH_take (i := 3) (v := .bool true) rfl (by kernel_rfl) (by kernel_rfl) (by kernel_rfl) (fun _ _ _ h => h) (.inl ⟨by rfl, fun wx _ => by have x0 := eqIn32 wx G G (fun _ _ => rfl); go_simp⟩) hS2 ?_
              simp only [Act.put, List.getElem_toArray, List.getElem_cons_succ, List.getElem_cons_zero, List.setIfInBounds_toArray, List.set_cons_succ, List.set_cons_zero]
              refine wpAnyH_take (i := 4) (v := .bool true) rfl (by kernel_rfl) (by kernel_rfl) (by kernel_rfl) (fun _ _ _ h => h) (.inl ⟨by rfl, fun wx _ => by go_simp⟩) hS2 ?_
              simp only [Act.put, List.getElem_toArray, List.getElem_cons_succ, List.getElem_cons_zero, List.setIfInBounds_toArray, List.set_cons_succ, List.set_cons_zero]
              refine wpAnyH_take (i := 5) (v := undef) rfl (by kernel_rfl) (by kernel_rfl) (by kernel_rfl) (fun _ _ _ h => h) (.inr ⟨by kernel_rfl, rfl⟩) hS2 ?_
              simp only [Act.put, List.getElem_toArray, List.getElem_cons_succ, List.getElem_cons_zero, List.setIfInBounds_toArray, List.set_cons_succ, List.set_cons_zero]
              refine wpAnyH_take (i := 6) (v := .bool true) rfl (by kernel_rfl) (by kernel_rfl) (by kernel_rfl) (fun _ _ _ h => h) (.inl ⟨by rfl, fun wx _ => by go_simp⟩) hS2 ?_
              simp only [Act.put, List.getElem_toArray, List.getElem_cons_succ, List.getElem_cons_zero, List.setIfInBounds_toArray, List.set_cons_succ, List.set_cons_zero]
              refine wpAnyH_take (i := 7) (v := .bool true) rfl (by kernel_rfl) (by kernel_rfl) (by kernel_rfl) (fun _ _ _ h => h) (.inl ⟨by rfl, fun wx _ => by go_simp⟩) hS2 ?_
              simp only [Act.put, List.getElem_toArray, List.getElem_cons_succ, List.getElem_cons_zero, List.setIfInBounds_toArray, List.set_cons_succ, List.set_cons_zero]
              refine wpAnyH_done (by kernel_rfl) ?_ _
              clear hS hS2
              go_wp2
              go_ret
              exact ⟨rfl, F20.out⟩
            · by_cases h64 : 64 < nk
              · have hk2 : ¬ (nk : Int) ≤ 64 := by omega
                go_upto_region 20 with (go_at_call 31; refine (DelKey_c _ tb h64).mono ?_; rintro e w12 ⟨rfl, f12⟩; have FT12 := hid (FT9.out.trans (f12.mono (show ∀ k ∈ ([] : List Nat), k ∈ [tb] by simp))); have F12 := hid (F9.out.trans f12); have HT12 := hid (HT9.out.fr f12); clear f12)
                have hS := SKN.out _ (FT12.out.trans ((Fr.refl _ _).drew.mono (show ∀ k ∈ ([] : List Nat), k ∈ [tb] by simp)))
                refine wp_region_held_drew (S := fun w' => w'.heap[R]? = some (.cells (bvals 32 G) 28 (0, 0))) (by kernel_rfl) hS (fun hS => ?_)
                refine wpAnyH_take (i := 0) (v := .pointer (some ⟨tb, 0, none⟩)) rfl (by kernel_rfl) (by kernel_rfl) (by kernel_rfl) (fun _ _ _ h => h) (.inl ⟨by rfl, fun wx _ => by go_simp⟩) hS ?_
                simp only [Act.put, List.getElem_toArray, List.getElem_cons_zero, List.setIfInBounds_toArray, List.set_cons_succ, List.set_cons_zero]
                refine wpAnyH_take (i := 2) (v := .agg (bvals 32 G)) rfl (by kernel_rfl) (by kernel_rfl) (by kernel_rfl) (fun _ _ _ h => h) (.inl ⟨by rfl, fun wx hX => by have x0 := ldVar32 hX; simp [execOp, Act.eval, Instr.loadAt, Instr.sureAddr, x0]⟩) hS ?_
                simp only [Act.put, List.getElem_toArray, List.getElem_cons_succ, List.getElem_cons_zero, List.setIfInBounds_toArray, List.set_cons_succ, List.set_cons_zero]
                refine wpAnyH_ready (rs := [1]) (by kernel_rfl) (by simp) ?_
                refine AllReadyH.cons rfl (fun K hK => ?_) AllReadyH.nil
                go_simp
                go_at_call 15
                refine (RT.out _ _ (HT12.out.fr (Fr.refl _ _).drew) F12.out.drew).mono ?_
                rintro e w20 ⟨rfl, f20⟩
                have F20 := hid (F12.out.drew.trans f20)
                have hS2 := SKN.out _ (FT12.out.trans (((Fr.refl _ _).drew.trans f20).mono (show ∀ k ∈ ([] : List Nat), k ∈ [tb] by simp)))
                clear f20
                go_simp
                refine hK.out _ _ hS2 (fun _ => ?_)
                clear hK K
                refine wpAnyH_take (i := 3) (v := .bool true) rfl (by kernel_rfl) (by kernel_rfl) (by kernel_rfl) (fun _ _ _ h => h) (.inl ⟨by rfl, fun wx _ => by have x0 := eqIn32 wx G G (fun _ _ => rfl); go_simp⟩) hS2 ?_
                simp only [Act.put, List.getElem_toArray, List.getElem_cons_succ, List.getElem_cons_zero, List.setIfInBounds_toArray, List.set_cons_succ, List.set_cons_zero]
                refine wpAnyH_take (i := 4) (v := .bool true) rfl (by kernel_rfl) (by kernel_rfl) (by kernel_rfl) (fun _ _ _ h => h) (.inl ⟨by rfl, fun wx _ => by go_simp⟩) hS2 ?_
                simp only [Act.put, List.getElem_toArray, List.getElem_cons_succ, List.getElem_cons_zero, List.setIfInBounds_toArray, List.set_cons_succ, List.set_cons_zero]
                refine wpAnyH_take (i := 5) (v := undef) rfl (by kernel_rfl) (by kernel_rfl) (by kernel_rfl) (fun _ _ _ h => h) (.inr ⟨by kernel_rfl, rfl⟩) hS2 ?_
                simp only [Act.put, List.getElem_toArray, List.getElem_cons_succ, List.getElem_cons_zero, List.setIfInBounds_toArray, List.set_cons_succ, List.set_cons_zero]
                refine wpAnyH_take (i := 6) (v := .bool true) rfl (by kernel_rfl) (by kernel_rfl) (by kernel_rfl) (fun _ _ _ h => h) (.inl ⟨by rfl, fun wx _ => by go_simp⟩) hS2 ?_
                simp only [Act.put, List.getElem_toArray, List.getElem_cons_succ, List.getElem_cons_zero, List.setIfInBounds_toArray, List.set_cons_succ, List.set_cons_zero]
                refine wpAnyH_take (i := 7) (v := .bool true) rfl (by kernel_rfl) (by kernel_rfl) (by kernel_rfl) (fun _ _ _ h => h) (.inl ⟨by rfl, fun wx _ => by go_simp⟩) hS2 ?_
                simp only [Act.put, List.getElem_toArray, List.getElem_cons_succ, List.getElem_cons_zero, List.setIfInBounds_toArray, List.set_cons_succ, List.set_cons_zero]
                refine wpAnyH_done (by kernel_rfl) ?_ _
                clear hS hS2
                go_wp2
                go_ret
                exact ⟨rfl, F20.out⟩
              · have hk2 : (nk : Int) ≤ 64 := by omega
                have GN := HIM.out.gone HKB.out (by have := HNK.out; omega) (fun p hp => by
                  obtain ⟨e, he, rfl⟩ := List.mem_map.1 hp
                  exact hno e he)
                go_upto_region 20 with (go_at_call 31; refine (Delete_c _ (HTH.out.fr F9.out) HT9.out HIM.out.can (HK.out.fr F9.out) HKB.out (by have := HNK.out; omega)).mono ?_; rintro e w12 ⟨rfl, ⟨S12, t12, _⟩, f12⟩; rw [GN] at t12; have HT12 := hid t12; have FT12 := hid (FT9.out.trans f12); have F12 := hid (F9.out.overT f12 HTB.out); clear f12 t12)
                have hS := SKN.out _ (FT12.out.trans ((Fr.refl _ _).drew.mono (show ∀ k ∈ ([] : List Nat), k ∈ [tb] by simp)))
                refine wp_region_held_drew (S := fun w' => w'.heap[R]? = some (.cells (bvals 32 G) 28 (0, 0))) (by kernel_rfl) hS (fun hS => ?_)
                refine wpAnyH_take (i := 0) (v := .pointer (some ⟨tb, 0, none⟩)) rfl (by kernel_rfl) (by kernel_rfl) (by kernel_rfl) (fun _ _ _ h => h) (.inl ⟨by rfl, fun wx _ => by go_simp⟩) hS ?_
                simp only [Act.put, List.getElem_toArray, List.getElem_cons_zero, List.setIfInBounds_toArray, List.set_cons_succ, List.set_cons_zero]
                refine wpAnyH_take (i := 2) (v := .agg (bvals 32 G)) rfl (by kernel_rfl) (by kernel_rfl) (by kernel_rfl) (fun _ _ _ h => h) (.inl ⟨by rfl, fun wx hX => by have x0 := ldVar32 hX; simp [execOp, Act.eval, Instr.loadAt, Instr.sureAddr, x0]⟩) hS ?_
                simp only [Act.put, List.getElem_toArray, List.getElem_cons_succ, List.getElem_cons_zero, List.setIfInBounds_toArray, List.set_cons_succ, List.set_cons_zero]
                refine wpAnyH_ready (rs := [1]) (by kernel_rfl) (by simp) ?_
                refine AllReadyH.cons rfl (fun K hK => ?_) AllReadyH.nil
                go_simp
                go_at_call 15
                refine (RT.out _ _ (HT12.out.fr (Fr.refl _ _).drew) F12.out.drew).mono ?_
                rintro e w20 ⟨rfl, f20⟩
                have F20 := hid (F12.out.drew.trans f20)
                have hS2 := SKN.out _ (FT12.out.trans (((Fr.refl _ _).drew.trans f20).mono (show ∀ k ∈ ([] : List Nat), k ∈ [tb] by simp)))
                clear f20
                go_simp
                refine hK.out _ _ hS2 (fun _ => ?_)
                clear hK K
                refine wpAnyH_take (i := 3) (v := .bool true) rfl (by kernel_rfl) (by kernel_rfl) (by kernel_rfl) (fun _ _ _ h => h) (.inl ⟨by rfl, fun wx _ => by have x0 := eqIn32 wx G G (fun _ _ => rfl); go_simp⟩) hS2 ?_
                simp only [Act.put, List.getElem_toArray, List.getElem_cons_succ, List.getElem_cons_zero, List.setIfInBounds_toArray, List.set_cons_succ, List.set_cons_zero]
                refine wpAnyH_take (i := 4) (v := .bool true) rfl (by kernel_rfl) (by kernel_rfl) (by kernel_rfl) (fun _ _ _ h => h) (.inl ⟨by rfl, fun wx _ => by go_simp⟩) hS2 ?_
                simp only [Act.put, List.getElem_toArray, List.getElem_cons_succ, List.getElem_cons_zero, List.setIfInBounds_toArray, List.set_cons_succ, List.set_cons_zero]
                refine wpAnyH_take (i := 5) (v := undef) rfl (by kernel_rfl) (by kernel_rfl) (by kernel_rfl) (fun _ _ _ h => h) (.inr ⟨by kernel_rfl, rfl⟩) hS2 ?_
                simp only [Act.put, List.getElem_toArray, List.getElem_cons_succ, List.getElem_cons_zero, List.setIfInBounds_toArray, List.set_cons_succ, List.set_cons_zero]
                refine wpAnyH_take (i := 6) (v := .bool true) rfl (by kernel_rfl) (by kernel_rfl) (by kernel_rfl) (fun _ _ _ h => h) (.inl ⟨by rfl, fun wx _ => by go_simp⟩) hS2 ?_
                simp only [Act.put, List.getElem_toArray, List.getElem_cons_succ, List.getElem_cons_zero, List.setIfInBounds_toArray, List.set_cons_succ, List.set_cons_zero]
                refine wpAnyH_take (i := 7) (v := .bool true) rfl (by kernel_rfl) (by kernel_rfl) (by kernel_rfl) (fun _ _ _ h => h) (.inl ⟨by rfl, fun wx _ => by go_simp⟩) hS2 ?_
                simp only [Act.put, List.getElem_toArray, List.getElem_cons_succ, List.getElem_cons_zero, List.setIfInBounds_toArray, List.set_cons_succ, List.set_cons_zero]
                refine wpAnyH_done (by kernel_rfl) ?_ _
                clear hS hS2
                go_wp2
                go_ret
                exact ⟨rfl, F20.out⟩
end Go.Proofs.YtmpfnglcmaollaaDoor
