/-
  TrieOne, walked.
-/
import Derived.Test.YtmpfnglcmaollaaDoorJ36
import Derived.Test.YtmpfnglcmaollaaDoorJ42
import Derived.Test.YtmpfnglcmaollaaDoorJ01
import Derived.ShutString
import Derived.ChangeOld
import Derived.SizedLaws
import Derived.Deep.Matrix
namespace Go.Proofs.YtmpfnglcmaollaaDoor
open Go.ChangeShapes Go.WideShapes Go.ChangeAt Go.RowKit

theorem str_self (y : List Nat) : ((strOf y).toList == (strOf y).toList) = true := by simp
theorem packOk_c (w : World) {v : Value} {p : List Nat} (hr : Rd w v (bv p)) (hn : Nb p) (hl : p.length ≤ 128) (leaf : Bool) :
    Calls Tryd.prog 20 #[v, .bool leaf] w fun e w' => ∃ v', e = .returned (.tuple #[v', .int .i64 0]) ∧ w'.ownsRow w.heap.size 5 1 v' (packF p leaf).length (bv (packF p leaf)) ∧ Fr [] w w' :=
  (pack_c w hr (fun x hx => by have := hn x hx; omega) leaf (by omega)).mono fun e w' h => by
    rcases h.1 with ⟨_, v', e1, o⟩ | ⟨h1, _⟩
    · exact ⟨v', e1, o, h.2⟩
    · rw [okP_of hn hl] at h1; cases h1
set_option maxRecDepth 20000 in
set_option maxHeartbeats 12800000 in
theorem one_c (w : World) (HT : Tabs w) {kv vv : Value} {key val : List Nat} (hk : Rd w kv (bv key)) (hkb : By key) (hkl : key.length ≤ 140737488355328) (hv : Rd w vv (bv val)) (hvb : By val) (hvl : val.length ≤ 140737488355328) :
    Calls Tryd.prog 7 #[kv, vv] w fun e w' => e = .returned (.bool true) ∧ Fr [] w w' := by
  obtain ⟨f, hf⟩ : ∃ f, f = hashOf [128] := ⟨_, rfl⟩
  obtain ⟨ka, kc, e1⟩ := hk.form
  obtain ⟨va, vc, e2⟩ := hv.form
  rw [bv_len] at e1 e2
  subst e1 e2
  have HTH := hid HT
  have HK := hid hk
  have HKB := hid hkb
  have HV := hid hv
  have HVB := hid hvb
  have HF0 := hid hf
  have KN := hid (known_c w HT f hf (hashOf trRX) rfl)
  have EM := hid (fun (w1 : World) (g : Fr [] w w1) => empty_c w1 (HT.fr g))
  rw [← hf] at EM
  have NW := hid (fun (w1 : World) (g : Fr [] w w1) => new_cT w1 (HT.fr g) f hf)
  clear hk hkb hv hvb HT hf
  obtain ⟨nk, hnk⟩ : ∃ n, n = key.length := ⟨_, rfl⟩
  have HNK := hid hnk
  obtain ⟨nv, hnv⟩ : ∃ n, n = val.length := ⟨_, rfl⟩
  have HNV := hid hnv
  rw [← hnk] at HK hkl ⊢
  rw [← hnv] at HV hvl ⊢
  clear hnk hnv
  by_cases hout : 64 < nk ∨ nv < 1 ∨ 1024 < nv
  · by_cases h1 : 64 < nk
    · have i1 : (64 : Int) < (nk : Int) := by omega
      go_enter Tryd.func7, Tryd.ntmps7
      go_wp2_with (go_at_call 9; refine KN.out.mono ?_; rintro e w1 ⟨rfl, f1⟩; have F1 := hid f1; clear f1)
      go_ret
      exact ⟨rfl, F1.out⟩
    · have i1 : ¬ (64 : Int) < (nk : Int) := by omega
      by_cases h2 : nv < 1
      · obtain rfl : nv = 0 := by omega
        go_enter Tryd.func7, Tryd.ntmps7
        go_wp2_with (go_at_call 9; refine KN.out.mono ?_; rintro e w1 ⟨rfl, f1⟩; have F1 := hid f1; clear f1)
        go_ret
        exact ⟨rfl, F1.out⟩
      · have i2 : ¬ (nv : Int) < 1 := by omega
        have i3 : (1024 : Int) < (nv : Int) := by omega
        go_enter Tryd.func7, Tryd.ntmps7
        go_wp2_with (go_at_call 9; refine KN.out.mono ?_; rintro e w1 ⟨rfl, f1⟩; have F1 := hid f1; clear f1)
        go_ret
        exact ⟨rfl, F1.out⟩
  · have i1 : ¬ (64 : Int) < (nk : Int) := by omega
    have i2 : ¬ (nv : Int) < 1 := by omega
    have i3 : ¬ (1024 : Int) < (nv : Int) := by omega
    have h64 : nk ≤ 64 := by omega
    have hv1 : 1 ≤ nv := by omega
    have hv2 : nv ≤ 1024 := by omega
    go_enter Tryd.func7, Tryd.ntmps7
    go_upto_region 5 with (go_at_call 9; refine KN.out.mono ?_; rintro e w1 ⟨rfl, f1⟩; have F2 := hid f1; clear f1)
    go_upto_region 6 with (first
      | (go_at_call 12; refine (EM.out _ F2.out).mono ?_; rintro e w3 ⟨rfl, f3⟩; have F3 := hid (F2.out.trans f3); clear f3)
      | (go_at_call 11; refine (NW.out _ F3.out).mono ?_; rintro e w4 ⟨tb, gv, rfl, hT, hb, f4⟩; have HTI := hid hT; have HTB := hid (Nat.le_trans F3.out.size hb); have F4 := hid (F3.out.trans f4); clear hT hb f4 NW))
    have hne : val ≠ [] := fun e => by have := HNV.out; rw [e] at this; simp at this; omega
    have PE : putT .nil (nibF key) val = .leaf (nibF key) val := by
      show (if ([] : List Nat) = val then Nd.nil else Nd.leaf (nibF key) val) = _
      rw [if_neg (fun e => hne e.symm)]
    have RE : remT (.leaf (nibF key) val) (nibF key) = .nil := by
      have hfl : findN (.leaf (nibF key) val) (nibF key) = val := if_pos rfl
      unfold remT
      rw [hfl, if_neg hne]
      exact if_pos rfl
    have HRE := hid RE
    have HPE := hid PE
    have hnl := nibF_len key
    have HNL := hid hnl
    clear PE RE hne hnl
    go_upto_region 8 with (go_at_call 29; refine (Put_c _ (HTH.out.fr F4.out) HTI.out (HK.out.fr F4.out) HKB.out (by have := HNK.out; omega) (HV.out.fr F4.out) HVB.out (by have := HNV.out; omega) (by have := HNV.out; omega)).mono ?_; rintro e w5 ⟨rfl, ⟨S5, t5, _⟩, f5⟩; rw [HPE.out] at t5; have HT5 := hid t5; have F5 := hid (F4.out.overT f5 HTB.out); clear f5 t5)
    obtain ⟨y, hy⟩ : ∃ y, y = encN (.leaf (nibF key) val) := ⟨_, rfl⟩
    have HY := hid hy
    have HYB := hid (show By y by
      rw [hy]
      exact (headL_by (by omega)).append ((strL_by (packF_by (nibF_nb HKB.out) _)).append (strL_by HVB.out)))
    have HYL := hid (show y.length ≤ 4000 by rw [hy]; exact leaf_len HT5.out.ok)
    have HPL := hid (packF_le (p := nibF key) (by have := HNL.out; have := HNK.out; omega) true)
    have HPL2 := hid (strL_len (packF (nibF key) true))
    have HVL2 := hid (strL_len val)
    clear hy
    go_upto_region 9 with (first
      | (go_at_call 23; refine (nib_c _ (HK.out.fr F5.out) HKB.out (by have := HNK.out; omega)).mono ?_; rintro e w6 ⟨pv, rfl, o6, f6⟩; have R6 := hid (Rd.ownB o6); have F6 := hid (F5.out.trans f6); have T6 := hid (HT5.out.fr f6); clear o6 f6)
      | (go_at_call 20; refine (packOk_c _ R6.out (nibF_nb HKB.out) (by have := HNL.out; have := HNK.out; omega) true).mono ?_; rintro e w7 ⟨qv, rfl, o7, f7⟩; have R7 := hid (Rd.ownB o7); have F7 := hid (F6.out.trans f7); have T7 := hid (T6.out.fr f7); clear o7 f7))
    go_upto_region 10 with (first
      | (go_at_call_of 34 qv; refine (rbytes_c _ R7.out (packF_by (nibF_nb HKB.out) _) (by have := HPL.out; have := HPL2.out.1; omega)).mono ?_; rintro e w8 ⟨bv8, rfl, o8, f8⟩; have O8 := hid o8; have F8 := hid (F7.out.trans f8); have F78 := hid f8; clear o8 f8)
      | (go_at_call_of 34 (Value.slice va nv vc); refine (rbytes_c _ (HV.out.fr F8.out) HVB.out (by have := HNV.out; omega)).mono ?_; rintro e w9 ⟨bv9, rfl, o9, f9⟩; have O9 := hid o9; have O89 := hid (ownsRow_fr O8.out f9); have F9 := hid (F8.out.trans f9); have F79 := hid (F78.out.trans f9); clear o9 f9)
      | (at_builtin; refine wpList_append_bv rfl _ _ rfl O89.out rfl F79.out (Nat.le_refl _) F79.out.size _ (Rd.ownB O9.out) rfl (by have := HPL.out; have := HVL2.out; have := HNV.out; omega) ?_; intro v10 w10 o10 f10; rw [← List.length_append] at o10; have O10 := hid o10; have F10 := hid (F7.out.trans f10); have T10 := hid (T7.out.fr f10); clear o10 f10)
      | (go_at_call 33; refine (rlist_c _ (Rd.ownB O10.out) (by rw [List.length_append]; have := HPL.out; have := HVL2.out; have := HNV.out; omega)).mono ?_; rintro e w11 ⟨bv11, rfl, o11, f11⟩; have R11 := hid (Rd.ownB o11); have F11 := hid (F10.out.trans f11); have T11 := hid (T10.out.fr f11); clear o11 f11))
    have R11y : Hid (Rd w11 bv11 (bv y)) := hid (by rw [HY.out]; exact R11.out)
    obtain ⟨ba, bc, rfl⟩ : ∃ ba bc, bv11 = .slice ba y.length bc := by
      obtain ⟨ba, bc, e⟩ := R11y.out.form
      rw [bv_len] at e
      exact ⟨ba, bc, e⟩
    go_upto_region 11 with (go_at_call 14; refine (NodesLeaf_c _ (HTH.out.fr F11.out) T11.out).mono ?_; rintro e w12 ⟨q, k, rfl, nn, f12⟩; have NN := hid nn; have F12 := hid (F11.out.trans f12); have T12 := hid (T11.out.fr f12); have R12 := hid (R11y.out.fr f12); clear nn f12)
    obtain ⟨nh, nv12, nc, nr⟩ := NN.out
    rw [← HY.out] at nh nr
    obtain ⟨ya, yc, rfl⟩ : ∃ ya yc, nv12 = .slice ya y.length yc := by
      obtain ⟨ya, yc, e⟩ := nr.form
      rw [bv_len] at e
      exact ⟨ya, yc, e⟩
    have RT := hid (fun (w1 : World) (h : TrieI S5 w1 tb gv (.leaf (nibF key) val)) (g : Fr [] w w1) => rootAll_c w1 h (HTH.out.fr g))
    rw [← HY.out] at RT
    have SM := hid (fun (w1 : World) (g : Fr [] w12 w1) => refSum_c w1 (R12.out.fr g) HYB.out (by have := HYL.out; omega))
    have HHB := hid (hash_bv y)
    have SK := hid (fun (w' : World) (g : Fr [] w12 w') => (show Rd w' (.slice (some ⟨q, 0, none⟩) 32 32) (bv (hshF y)) ∧ w'.cell? ⟨q, 32, none⟩ = some (.slice ya y.length yc) ∧ Rd w' (.slice ya y.length yc) (bv y) ∧ Rd w' (.slice ba y.length bc) (bv y) from ⟨nh.fr g, cell_fr nc g, nr.fr g, R12.out.fr g⟩))
    clear nh nc nr NN R11 R11y
    have HYL2 := HYL.out
    obtain ⟨ny, hny⟩ : ∃ n, n = y.length := ⟨_, rfl⟩
    rw [← hny] at SK SM ⊢
    clear hny
    have F12d := hid F12.out.drew
    have FD : Hid (Fr [] w12 w12.drew) := hid (Fr.refl _ _).drew
    obtain ⟨G, hG⟩ : ∃ G, G = hashOf y := ⟨_, rfl⟩
    rw [← hG] at RT SM HHB
    clear hG
    refine wp_region_held_drew (S := fun w' => Rd w' (.slice (some ⟨q, 0, none⟩) 32 32) (bv (hshF y)) ∧ w'.cell? ⟨q, 32, none⟩ = some (.slice ya ny yc) ∧ Rd w' (.slice ya ny yc) (bv y) ∧ Rd w' (.slice ba ny bc) (bv y)) (by kernel_rfl) (SK.out _ FD.out) (fun hS => ?_)
    refine wpAnyH_take (i := 0) (v := .int .i64 0) rfl (by kernel_rfl) (by kernel_rfl) (by kernel_rfl) (fun _ _ _ h => h) (.inl ⟨by rfl, fun wx _ => by go_simp⟩) hS ?_
    simp only [Act.put, List.getElem_toArray, List.getElem_cons_zero, List.setIfInBounds_toArray, List.set_cons_succ, List.set_cons_zero]
    refine wpAnyH_take (i := 1) (v := .bool false) rfl (by kernel_rfl) (by kernel_rfl) (by kernel_rfl) (fun _ _ _ h => h) (.inl ⟨by rfl, fun wx _ => by go_simp⟩) hS ?_
    simp only [Act.put, List.getElem_toArray, List.getElem_cons_succ, List.getElem_cons_zero, List.setIfInBounds_toArray, List.set_cons_succ, List.set_cons_zero]
    refine wpAnyH_take (i := 2) (v := .bool false) rfl (by kernel_rfl) (by kernel_rfl) (by kernel_rfl) (fun _ _ _ h => h) (.inl ⟨by rfl, fun wx _ => by go_simp⟩) hS ?_
    simp only [Act.put, List.getElem_toArray, List.getElem_cons_succ, List.getElem_cons_zero, List.setIfInBounds_toArray, List.set_cons_succ, List.set_cons_zero]
    refine wpAnyH_take (i := 3) (v := .slice (some ⟨q, 0, none⟩) 1 k) rfl (by kernel_rfl) (by kernel_rfl) (by kernel_rfl) (fun _ _ _ h => h) (.inl ⟨by kernel_rfl, fun wx _ => by go_simp⟩) hS ?_
    simp only [Act.put, List.getElem_toArray, List.getElem_cons_succ, List.getElem_cons_zero, List.setIfInBounds_toArray, List.set_cons_succ, List.set_cons_zero]
    refine wpAnyH_take (i := 4) (v := .int .i64 1) rfl (by kernel_rfl) (by kernel_rfl) (by kernel_rfl) (fun _ _ _ h => h) (.inl ⟨by kernel_rfl, fun wx _ => by go_simp⟩) hS ?_
    simp only [Act.put, List.getElem_toArray, List.getElem_cons_succ, List.getElem_cons_zero, List.setIfInBounds_toArray, List.set_cons_succ, List.set_cons_zero]
    refine wpAnyH_take (i := 5) (v := .bool false) rfl (by kernel_rfl) (by kernel_rfl) (by kernel_rfl) (fun _ _ _ h => h) (.inl ⟨by kernel_rfl, fun wx _ => by go_simp⟩) hS ?_
    simp only [Act.put, List.getElem_toArray, List.getElem_cons_succ, List.getElem_cons_zero, List.setIfInBounds_toArray, List.set_cons_succ, List.set_cons_zero]
    refine wpAnyH_take (i := 6) (v := .bool false) rfl (by kernel_rfl) (by kernel_rfl) (by kernel_rfl) (fun _ _ _ h => h) (.inl ⟨by rfl, fun wx _ => by go_simp⟩) hS ?_
    simp only [Act.put, List.getElem_toArray, List.getElem_cons_succ, List.getElem_cons_zero, List.setIfInBounds_toArray, List.set_cons_succ, List.set_cons_zero]
    refine wpAnyH_take (i := 7) (v := .bool false) rfl (by kernel_rfl) (by kernel_rfl) (by kernel_rfl) (fun _ _ _ h => h) (.inl ⟨by rfl, fun wx _ => by go_simp⟩) hS ?_
    simp only [Act.put, List.getElem_toArray, List.getElem_cons_succ, List.getElem_cons_zero, List.setIfInBounds_toArray, List.set_cons_succ, List.set_cons_zero]
    refine wpAnyH_take (i := 8) (v := .slice (some ⟨q, 0, none⟩) 1 k) rfl (by kernel_rfl) (by kernel_rfl) (by kernel_rfl) (fun _ _ _ h => h) (.inl ⟨by kernel_rfl, fun wx _ => by go_simp⟩) hS ?_
    simp only [Act.put, List.getElem_toArray, List.getElem_cons_succ, List.getElem_cons_zero, List.setIfInBounds_toArray, List.set_cons_succ, List.set_cons_zero]
    refine wpAnyH_take (i := 9) (v := .pointer (some ⟨q, 0, none⟩)) rfl (by kernel_rfl) (by kernel_rfl) (by kernel_rfl) (fun _ _ _ h => h) (.inl ⟨by kernel_rfl, fun wx _ => by go_simp⟩) hS ?_
    simp only [Act.put, List.getElem_toArray, List.getElem_cons_succ, List.getElem_cons_zero, List.setIfInBounds_toArray, List.set_cons_succ, List.set_cons_zero]
    refine wpAnyH_take (i := 10) (v := .pointer (some ⟨q, 32, none⟩)) rfl (by kernel_rfl) (by kernel_rfl) (by kernel_rfl) (fun _ _ _ h => h) (.inl ⟨by kernel_rfl, fun wx _ => by go_simp⟩) hS ?_
    simp only [Act.put, List.getElem_toArray, List.getElem_cons_succ, List.getElem_cons_zero, List.setIfInBounds_toArray, List.set_cons_succ, List.set_cons_zero]
    refine wpAnyH_take (i := 11) (v := .slice ya ny yc) rfl (by kernel_rfl) (by kernel_rfl) (by kernel_rfl) (fun _ _ _ h => h) (.inl ⟨by kernel_rfl, fun wx hX => by obtain ⟨_, x1, _, _⟩ := hX; go_simp⟩) hS ?_
    simp only [Act.put, List.getElem_toArray, List.getElem_cons_succ, List.getElem_cons_zero, List.setIfInBounds_toArray, List.set_cons_succ, List.set_cons_zero]
    refine wpAnyH_take (i := 12) (v := .string (strOf y)) rfl (by kernel_rfl) (by kernel_rfl) (by kernel_rfl) (fun _ _ _ h => h) (.inl ⟨by kernel_rfl, fun wx hX => by have x1 := run_conv hX.2.2.1; go_simp⟩) hS ?_
    simp only [Act.put, List.getElem_toArray, List.getElem_cons_succ, List.getElem_cons_zero, List.setIfInBounds_toArray, List.set_cons_succ, List.set_cons_zero]
    refine wpAnyH_take (i := 13) (v := .slice ba ny bc) rfl (by kernel_rfl) (by kernel_rfl) (by kernel_rfl) (fun _ _ _ h => h) (.inl ⟨by kernel_rfl, fun wx _ => by go_simp⟩) hS ?_
    simp only [Act.put, List.getElem_toArray, List.getElem_cons_succ, List.getElem_cons_zero, List.setIfInBounds_toArray, List.set_cons_succ, List.set_cons_zero]
    refine wpAnyH_take (i := 14) (v := .string (strOf y)) rfl (by kernel_rfl) (by kernel_rfl) (by kernel_rfl) (fun _ _ _ h => h) (.inl ⟨by kernel_rfl, fun wx hX => by have x1 := run_conv hX.2.2.2; go_simp⟩) hS ?_
    simp only [Act.put, List.getElem_toArray, List.getElem_cons_succ, List.getElem_cons_zero, List.setIfInBounds_toArray, List.set_cons_succ, List.set_cons_zero]
    refine wpAnyH_take (i := 15) (v := .bool false) rfl (by kernel_rfl) (by kernel_rfl) (by kernel_rfl) (fun _ _ _ h => h) (.inl ⟨by kernel_rfl, fun wx _ => by have x1 := str_self y; go_simp⟩) hS ?_
    simp only [Act.put, List.getElem_toArray, List.getElem_cons_succ, List.getElem_cons_zero, List.setIfInBounds_toArray, List.set_cons_succ, List.set_cons_zero]
    refine wpAnyH_take (i := 16) (v := .bool false) rfl (by kernel_rfl) (by kernel_rfl) (by kernel_rfl) (fun _ _ _ h => h) (.inl ⟨by rfl, fun wx _ => by go_simp⟩) hS ?_
    simp only [Act.put, List.getElem_toArray, List.getElem_cons_succ, List.getElem_cons_zero, List.setIfInBounds_toArray, List.set_cons_succ, List.set_cons_zero]
    refine wpAnyH_take (i := 17) (v := .bool false) rfl (by kernel_rfl) (by kernel_rfl) (by kernel_rfl) (fun _ _ _ h => h) (.inl ⟨by rfl, fun wx _ => by go_simp⟩) hS ?_
    simp only [Act.put, List.getElem_toArray, List.getElem_cons_succ, List.getElem_cons_zero, List.setIfInBounds_toArray, List.set_cons_succ, List.set_cons_zero]
    refine wpAnyH_take (i := 18) (v := .slice (some ⟨q, 0, none⟩) 1 k) rfl (by kernel_rfl) (by kernel_rfl) (by kernel_rfl) (fun _ _ _ h => h) (.inl ⟨by kernel_rfl, fun wx _ => by go_simp⟩) hS ?_
    simp only [Act.put, List.getElem_toArray, List.getElem_cons_succ, List.getElem_cons_zero, List.setIfInBounds_toArray, List.set_cons_succ, List.set_cons_zero]
    refine wpAnyH_take (i := 19) (v := .pointer (some ⟨q, 0, none⟩)) rfl (by kernel_rfl) (by kernel_rfl) (by kernel_rfl) (fun _ _ _ h => h) (.inl ⟨by kernel_rfl, fun wx _ => by go_simp⟩) hS ?_
    simp only [Act.put, List.getElem_toArray, List.getElem_cons_succ, List.getElem_cons_zero, List.setIfInBounds_toArray, List.set_cons_succ, List.set_cons_zero]
    refine wpAnyH_take (i := 20) (v := .pointer (some ⟨q, 0, none⟩)) rfl (by kernel_rfl) (by kernel_rfl) (by kernel_rfl) (fun _ _ _ h => h) (.inl ⟨by kernel_rfl, fun wx _ => by go_simp⟩) hS ?_
    simp only [Act.put, List.getElem_toArray, List.getElem_cons_succ, List.getElem_cons_zero, List.setIfInBounds_toArray, List.set_cons_succ, List.set_cons_zero]
    refine wpAnyH_take (i := 21) (v := .agg (bvals 32 G)) rfl (by kernel_rfl) (by kernel_rfl) (by kernel_rfl) (fun _ _ _ h => h) (.inl ⟨by kernel_rfl, fun wx hX => by have x0 := ldRd (hshF_len y) hX.1; rw [← HHB.out] at x0; simp [execOp, Act.eval, Instr.loadAt, Instr.sureAddr, x0]⟩) hS ?_
    simp only [Act.put, List.getElem_toArray, List.getElem_cons_succ, List.getElem_cons_zero, List.setIfInBounds_toArray, List.set_cons_succ, List.set_cons_zero]
    refine wpAnyH_take (i := 22) (v := .slice ba ny bc) rfl (by kernel_rfl) (by kernel_rfl) (by kernel_rfl) (fun _ _ _ h => h) (.inl ⟨by kernel_rfl, fun wx _ => by go_simp⟩) hS ?_
    simp only [Act.put, List.getElem_toArray, List.getElem_cons_succ, List.getElem_cons_zero, List.setIfInBounds_toArray, List.set_cons_succ, List.set_cons_zero]
    have hS2 := hid hS
    clear hS
    refine wpAnyH_ready (rs := [23]) (by kernel_rfl) (by simp) ?_
    refine AllReadyH.cons rfl (fun K hK => ?_) AllReadyH.nil
    go_simp
    go_at_call 17
    refine (SM.out _ FD.out).mono ?_
    rintro e w13 ⟨rfl, f13⟩
    have F13 := hid (FD.out.trans f13)
    have F13w := hid (F12d.out.trans f13)
    clear f13 hS2
    go_simp
    have hS := SK.out _ F13.out
    refine hK.out _ _ hS (fun _ => ?_)
    clear hK K
    refine wpAnyH_take (i := 24) (v := .bool false) rfl (by kernel_rfl) (by kernel_rfl) (by kernel_rfl) (fun _ _ _ h => h) (.inl ⟨by kernel_rfl, fun wx _ => by have x0 := eqIn32 wx G G (fun _ _ => rfl); go_simp⟩) hS ?_
    simp only [Act.put, List.getElem_toArray, List.getElem_cons_succ, List.getElem_cons_zero, List.setIfInBounds_toArray, List.set_cons_succ, List.set_cons_zero]
    refine wpAnyH_take (i := 25) (v := .bool false) rfl (by kernel_rfl) (by kernel_rfl) (by kernel_rfl) (fun _ _ _ h => h) (.inl ⟨by rfl, fun wx _ => by go_simp⟩) hS ?_
    simp only [Act.put, List.getElem_toArray, List.getElem_cons_succ, List.getElem_cons_zero, List.setIfInBounds_toArray, List.set_cons_succ, List.set_cons_zero]
    refine wpAnyH_take (i := 26) (v := .bool false) rfl (by kernel_rfl) (by kernel_rfl) (by kernel_rfl) (fun _ _ _ h => h) (.inl ⟨by rfl, fun wx _ => by go_simp⟩) hS ?_
    simp only [Act.put, List.getElem_toArray, List.getElem_cons_succ, List.getElem_cons_zero, List.setIfInBounds_toArray, List.set_cons_succ, List.set_cons_zero]
    refine wpAnyH_take (i := 27) (v := .pointer (some ⟨tb, 0, none⟩)) rfl (by kernel_rfl) (by kernel_rfl) (by kernel_rfl) (fun _ _ _ h => h) (.inl ⟨by kernel_rfl, fun wx _ => by go_simp⟩) hS ?_
    simp only [Act.put, List.getElem_toArray, List.getElem_cons_succ, List.getElem_cons_zero, List.setIfInBounds_toArray, List.set_cons_succ, List.set_cons_zero]
    refine wpAnyH_take (i := 29) (v := .slice (some ⟨q, 0, none⟩) 1 k) rfl (by kernel_rfl) (by kernel_rfl) (by kernel_rfl) (fun _ _ _ h => h) (.inl ⟨by kernel_rfl, fun wx _ => by go_simp⟩) hS ?_
    simp only [Act.put, List.getElem_toArray, List.getElem_cons_succ, List.getElem_cons_zero, List.setIfInBounds_toArray, List.set_cons_succ, List.set_cons_zero]
    refine wpAnyH_take (i := 30) (v := .pointer (some ⟨q, 0, none⟩)) rfl (by kernel_rfl) (by kernel_rfl) (by kernel_rfl) (fun _ _ _ h => h) (.inl ⟨by kernel_rfl, fun wx _ => by go_simp⟩) hS ?_
    simp only [Act.put, List.getElem_toArray, List.getElem_cons_succ, List.getElem_cons_zero, List.setIfInBounds_toArray, List.set_cons_succ, List.set_cons_zero]
    refine wpAnyH_take (i := 31) (v := .pointer (some ⟨q, 0, none⟩)) rfl (by kernel_rfl) (by kernel_rfl) (by kernel_rfl) (fun _ _ _ h => h) (.inl ⟨by kernel_rfl, fun wx _ => by go_simp⟩) hS ?_
    simp only [Act.put, List.getElem_toArray, List.getElem_cons_succ, List.getElem_cons_zero, List.setIfInBounds_toArray, List.set_cons_succ, List.set_cons_zero]
    refine wpAnyH_take (i := 32) (v := .agg (bvals 32 G)) rfl (by kernel_rfl) (by kernel_rfl) (by kernel_rfl) (fun _ _ _ h => h) (.inl ⟨by kernel_rfl, fun wx hX => by have x0 := ldRd (hshF_len y) hX.1; rw [← HHB.out] at x0; simp [execOp, Act.eval, Instr.loadAt, Instr.sureAddr, x0]⟩) hS ?_
    simp only [Act.put, List.getElem_toArray, List.getElem_cons_succ, List.getElem_cons_zero, List.setIfInBounds_toArray, List.set_cons_succ, List.set_cons_zero]
    clear hS
    refine wpAnyH_ready (rs := [28]) (by kernel_rfl) (by simp) ?_
    refine AllReadyH.cons rfl (fun K hK => ?_) AllReadyH.nil
    go_simp
    go_at_call 15
    refine (RT.out _ (T12.out.fr F13.out) F13w.out).mono ?_
    rintro e w14 ⟨rfl, f14⟩
    have F14 := hid (F13.out.trans f14)
    have F14w := hid (F13w.out.trans f14)
    clear f14
    go_simp
    have hS := SK.out _ F14.out
    refine hK.out _ _ hS (fun _ => ?_)
    clear hK K
    refine wpAnyH_take (i := 33) (v := .bool false) rfl (by kernel_rfl) (by kernel_rfl) (by kernel_rfl) (fun _ _ _ h => h) (.inl ⟨by kernel_rfl, fun wx _ => by have x0 := eqIn32 wx G G (fun _ _ => rfl); go_simp⟩) hS ?_
    simp only [Act.put, List.getElem_toArray, List.getElem_cons_succ, List.getElem_cons_zero, List.setIfInBounds_toArray, List.set_cons_succ, List.set_cons_zero]
    refine wpAnyH_take (i := 34) (v := .bool false) rfl (by kernel_rfl) (by kernel_rfl) (by kernel_rfl) (fun _ _ _ h => h) (.inl ⟨by rfl, fun wx _ => by go_simp⟩) hS ?_
    simp only [Act.put, List.getElem_toArray, List.getElem_cons_succ, List.getElem_cons_zero, List.setIfInBounds_toArray, List.set_cons_succ, List.set_cons_zero]
    refine wpAnyH_done (by kernel_rfl) ?_ _
    clear hS
    have T14 := hid (T12.out.fr F14.out)
    have NR := hid (fun (w1 : World) (S1 : Nat → Prop) (h : TrieI S1 w1 tb gv .nil) (g : Fr [] w w1) => RootNil_c w1 h (HTH.out.fr g))
    rw [← HF0.out] at NR
    have heq := fun w1 : World => eqIn32 w1 f f (fun _ _ => rfl)
    clear SK SM RT
    go_wp2_with (first
      | (go_at_call 31; refine (Delete_c _ (HTH.out.fr F14w.out) T14.out trivial (HK.out.fr F14w.out) HKB.out (by have := HNK.out; omega)).mono ?_; rintro e w15 ⟨rfl, ⟨S15, t15, _⟩, f15⟩; rw [HRE.out] at t15; have T15 := hid t15; have F15 := hid (F14w.out.overT f15 HTB.out); clear f15 t15)
      | (go_at_call 15; refine (NR.out _ _ T15.out F15.out).mono ?_; rintro e w16 ⟨rfl, f16⟩; have T16 := hid (T15.out.fr f16); have F16 := hid (F15.out.trans f16); clear f16)
      | (go_at_call 12; refine (EM.out _ F16.out).mono ?_; rintro e w17 ⟨rfl, f17⟩; have T17 := hid (T16.out.fr f17); have F17 := hid (F16.out.trans f17); clear f17)
      | (go_at_call 14; refine (NodesNil_c _ (HTH.out.fr F17.out) T17.out).mono ?_; rintro e w18 ⟨rfl, f18⟩; have F18 := hid (F17.out.trans f18); clear f18))
    go_ret
    exact ⟨rfl, F18.out⟩
end Go.Proofs.YtmpfnglcmaollaaDoor
namespace Go.Proofs.YtmpfnglcmaollaaDoor
open Go.ChangeShapes Go.WideShapes Go.ChangeAt Go.RowKit Go.Deep

theorem ownKnobs : ownKnob Tryd.prog.godebug = none := by kernel_rfl
theorem laidOut : laidOutB Tryd.prog = true := by kernel_rfl

theorem nat_of {n : Int} (h : 0 ≤ n) : ∃ m : Nat, n = (m : Int) := ⟨n.toNat, by omega⟩

/-- Bytes that came in. -/
theorem bytes_of {H : Type} {enc : TypeId × Value → H} {W : World} {ua : Option Addr} {len uc : Nat} {d : DataW H} {ps : List MemPlace} (h : DataW.Trod enc Tryd.prog W 0 (fun _ => true) true 33 (.slice ua len uc) d ps)
    (hw : ∀ n ∈ d.weights Tryd.prog 33, n ≤ reachBytes) : ∃ ns : List Nat, ns.length = len ∧ Rd W (.slice ua len uc) (bv ns) ∧ By ns ∧ len ≤ 140737488351232 := by
  obtain ⟨fuel, hf⟩ := h
  rcases open_ints Tryd.underlying33 Tryd.underlying5 (by kernel_rfl) hf with ⟨hcs, _⟩ | ⟨a, l, c, zs, hcs, _, hl, hm, hz, hx, hcell, hwf⟩
  · simp [Value.cells] at hcs
    obtain ⟨rfl, rfl, rfl⟩ := hcs
    exact ⟨[], rfl, .inl ⟨rfl, rfl⟩, fun u hu => by simp at hu, by omega⟩
  · simp [Value.cells] at hcs
    obtain ⟨rfl, rfl, rfl⟩ := hcs
    simp only [Prod.mk.injEq] at hx
    obtain ⟨rfl, _⟩ := hx
    simp only [if_true] at hz
    have hXl : ((zs.take len).map Int.toNat).length = len := by rw [List.length_map, List.length_take]; omega
    have hb : ∀ z ∈ zs, 0 ≤ z ∧ z ≤ 255 := fun z hz' => bounds_u8 (hwf z hz')
    refine ⟨(zs.take len).map Int.toNat, hXl, .inr ⟨a, uc, by rw [bv_len, hXl], by rw [bv_len, hXl]; exact hl, fun j u hj => ?_⟩, fun u hu => ?_, ?_⟩
    · have hjl : j < len := by
        rcases Nat.lt_or_ge j len with h | h
        · exact h
        · rw [List.getElem?_eq_none (by rw [bv_len, hXl]; omega)] at hj; cases hj
      have hjz : j < zs.length := by omega
      rw [hcell j hjz]
      unfold bv at hj
      rw [List.getElem?_map, List.getElem?_map, List.getElem?_take, if_pos hjl, List.getElem?_eq_getElem hjz] at hj
      simp only [Option.map_some, Option.some.injEq] at hj
      rw [← hj]
      have h0 := hb _ (List.getElem_mem hjz)
      simp only [List.getD, List.getElem?_eq_getElem hjz, Option.getD_some, Int.toNat_of_nonneg h0.1]
    · obtain ⟨n, hn, rfl⟩ := List.mem_map.1 hu
      have := hb n (List.mem_of_mem_take hn)
      omega
    · have h1 := hw (uc * Tryd.prog.bytesOf 5) (by
        simp only [DataW.weights, Tryd.underlying33]
        refine List.mem_cons.2 (.inl ?_)
        rw [lits, lits, List.length_map, List.length_map, List.length_take, List.length_drop, hz]
        congr 1; omega)
      rw [show Tryd.prog.bytesOf 5 = 1 from by kernel_rfl] at h1
      unfold reachBytes at h1
      omega
end Go.Proofs.YtmpfnglcmaollaaDoor
