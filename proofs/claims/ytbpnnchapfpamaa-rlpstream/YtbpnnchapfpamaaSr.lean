/-
  The walk of RlpStream.
-/
import Derived.Test.YtbpnnchapfpamaaKn
import Derived.Test.YtbpnnchapfpamaaRe5
import Derived.Test.YtbpnnchapfpamaaSm
import Derived.Test.YtbpnnchapfpamaaCt
import Derived.Test.YtbpnnchapfpamaaOi
namespace Go.Proofs.Ytbpnnchapfpamaa
open Go.ChangeShapes Go.WideShapes Go.ChangeAt Go.RowKit Go.Deep

/-- The first so many items one behind the other; and the others. -/
def catI (ks : List (Tr 19)) (k : Nat) : List Nat := (ks.take k).flatMap (enc 19)
def resI (ks : List (Tr 19)) (k : Nat) : List Nat := (ks.drop k).flatMap (enc 19)
theorem catI_step {ks : List (Tr 19)} {k : Nat} {x : Tr 19} (h : ks[k]? = some x) : catI ks (k + 1) = catI ks k ++ enc 19 x := by
  unfold catI; rw [List.take_add_one, h]; simp
theorem resI_step {ks : List (Tr 19)} {k : Nat} {x : Tr 19} (h : ks[k]? = some x) : resI ks k = enc 19 x ++ resI ks (k + 1) := by
  unfold resI
  obtain ⟨hk, e⟩ := List.getElem?_eq_some_iff.1 h
  rw [List.drop_eq_getElem_cons hk, e]; simp
theorem resI_all (ks : List (Tr 19)) : resI ks 0 = catI ks ks.length := by unfold resI catI; simp
theorem resI_none (ks : List (Tr 19)) : resI ks ks.length = [] := by unfold resI; simp
theorem resI_le (ks : List (Tr 19)) (k : Nat) : (resI ks k).length ≤ (catI ks ks.length).length := by
  have h : catI ks k ++ resI ks k = catI ks ks.length := by unfold resI catI; rw [← List.flatMap_append, List.take_append_drop, List.take_length]
  rw [← h, List.length_append]; omega
theorem resI_by {ks : List (Tr 19)} (h : ∀ x ∈ ks, byT 19 x) (k : Nat) : By (resI ks k) := by
  intro n hn
  unfold resI at hn
  obtain ⟨x, hx, hn⟩ := List.mem_flatMap.1 hn
  exact enc_by 19 x (h x (List.mem_of_mem_drop hx)) n hn

set_option maxRecDepth 20000 in
theorem stream_big (w : World) (la : Option Addr) (len lc : Nat) (h : 12 < len) (hl1 : len ≤ 140737488355328) :
    Calls Try.prog 6 #[.slice la len lc] w fun e w' => e = .returned (.bool true) ∧ Fr [] w w' := by
  go_enter Try.func6, Try.ntmps6
  go_wp2_with fail
  refine (known_c w).mono ?_
  rintro e w1 ⟨rfl, f1⟩
  go_wp2
  go_ret
  exact ⟨rfl, f1⟩

set_option maxRecDepth 20000 in
set_option maxHeartbeats 4000000 in
theorem stream_small (w : World) {kb ko len lc : Nat} {ks : List (Tr 19)} {la : Option Addr} (hkl : ks.length = len) (hla : 0 < len → la = some ⟨kb, ko, none⟩)
    (hX : ∀ (j : Nat) (k : Tr 19), ks[j]? = some k → ∃ l bs' is', w.cell? ⟨kb, ko + j * 3, none⟩ = some (.bool l) ∧ w.cell? ⟨kb, ko + j * 3 + 1, none⟩ = some bs' ∧ w.cell? ⟨kb, ko + j * 3 + 2, none⟩ = some is' ∧ IsV w 19 (.agg #[.bool l, bs', is']) k) (h1 : len ≤ 12) :
    Calls Try.prog 6 #[.slice la len lc] w fun e w' => e = .returned (.bool true) ∧ Fr [] w w' := by
  have HX := hid hX
  have HLA := hid hla
  have HKL := hid hkl
  have HBY : Hid (∀ x ∈ ks, byT 19 x) := fun x hx => by
    obtain ⟨j, hj⟩ := List.getElem?_of_mem hx
    obtain ⟨_, _, _, _, _, _, h⟩ := hX j x hj
    exact h.byT
  clear hX hla hkl
  go_enter Try.func6, Try.ntmps6
  go_wp2_with fail
  refine (known_c w).mono ?_
  rintro e w1 ⟨rfl, f1⟩
  have F1 := hid f1
  clear f1
  go_wp2_with fail
  go_loopw [3, 4] (fun v5 v6 wr => ∃ k : Nat, k ≤ len ∧ v6 = .int .i64 (k : Int) ∧ wr.ownsRow w.heap.size 5 1 v5 (catI ks k).length (bv (catI ks k)) ∧ Fr [] w wr ∧ (∀ j x, j < k → ks[j]? = some x → cw 19 x ≤ 400 ∧ encE x = 0) ∧ (catI ks k).length ≤ 65536) (fun _ v6 _ => len - (intOf v6).toNat)
  case atStart => exact ⟨0, by omega, rfl, World.ownsRow_nil _ _ _ _, F1.out, fun j x hj => by omega, by simp [catI]⟩
  case round =>
    obtain ⟨k, hk, rfl, ho, hf, hs, hL⟩ := hrel
    obtain ⟨A, hA⟩ : ∃ A, A = (catI ks k).length := ⟨_, rfl⟩
    rw [← hA] at ho hL
    obtain ⟨ab, cb, rfl, _⟩ := ownsRow_slice ho
    have HA := hid hA
    have RO := hid ho
    have RF := hid hf
    have RS := hid hs
    have hsz := hf.size
    clear ho hf hs hA
    by_cases hlt : k < len
    · obtain ⟨x, hx⟩ : ∃ x, ks[k]? = some x := ⟨_, List.getElem?_eq_getElem (by rw [HKL.out]; exact hlt)⟩
      have hla := HLA.out (by omega)
      subst hla
      obtain ⟨l1, b1', i1', p1, p2, p3, p4⟩ := HX.out k x hx
      obtain ⟨x1, x2, x3, x4, x5, x6, rfl, rfl⟩ := p4.cells
      have HP := hid (And.intro p1 (And.intro p2 p3))
      have P4 := hid p4
      have HC := hid (catI_step hx)
      have HXX := hid hx
      have q1 := cell_fr p1 RF.out
      have q2 := cell_fr p2 RF.out
      have q3 := cell_fr p3 RF.out
      have j0 : (k : Int) < (len : Int) := by omega
      clear p1 p2 p3 p4 hx
      go_wp2_with fail
      refine (few_c _ (P4.out.fr RF.out)).mono ?_
      rintro e w2 ⟨rfl, f2⟩
      have F2 := hid (RF.out.trans f2)
      clear q1 q2 q3
      have q1 := cell_fr HP.out.1 F2.out
      have q2 := cell_fr HP.out.2.1 F2.out
      have q3 := cell_fr HP.out.2.2 F2.out
      have O2 := hid (ownsRow_fr RO.out f2)
      clear f2
      by_cases hcw : cw 19 x ≤ 400
      · rw [decide_eq_true hcw]
        have HCW := hid hcw
        clear hcw
        go_wp2_with fail
        refine (encode_c _ (P4.out.fr F2.out) (by omega) (by have := cnt_cw 19 x; have := HCW.out; omega) (by have := enc_cw 19 x; have := HCW.out; omega)).mono ?_
        rintro e w3 ⟨v3, rfl, o3, f3⟩
        have F3 := hid (F2.out.trans f3)
        have O3 := hid (ownsRow_fr O2.out f3)
        obtain ⟨N, hN⟩ : ∃ N, N = encE x := ⟨_, rfl⟩
        rw [← hN]
        have HN := hid hN
        obtain ⟨E, hE⟩ : ∃ E, E = (encB x).length := ⟨_, rfl⟩
        rw [← hE] at o3
        have HE := hid hE
        obtain ⟨a3, c3, rfl, _⟩ := ownsRow_slice o3
        have R3 := hid (Rd.ownN o3 hE)
        have hNb : N ≤ 100 := by
          have := bad_le 19 1 x
          rw [hN]; unfold encE; split <;> (try split) <;> omega
        have hEb : E ≤ 65536 := by
          rw [hE]; unfold encB encE
          by_cases hb : bad 19 1 x = 0
          · by_cases hl : 65536 < (enc 19 x).length
            · simp [hb, hl]
            · simp [hb, hl]; omega
          · simp [hb]
        clear o3 f3 hN hE q1 q2 q3
        by_cases hN0 : N = 0
        · subst hN0
          have HB : Hid (encB x = enc 19 x) := by unfold Hid encB; rw [if_pos HN.out.symm]
          by_cases hbig : 65536 < A + E
          · go_wp2
            go_ret
            exact ⟨rfl, F3.out⟩
          · have hsm : A + E ≤ 65536 := by omega
            have hown : Hid (w3.ownsRow w.heap.size 5 1 (.slice ab A cb) (catI ks k).length (bv (catI ks k))) := by unfold Hid; rw [← HA.out]; exact O3.out
            go_wp2_with (at_builtin; refine wpList_append_bv rfl _ _ rfl hown.out rfl F3.out (Nat.le_refl _) F3.out.size _ R3.out rfl (by rw [← HA.out, ← HE.out]; omega) ?_; intro v5 w5 o5 f5; rw [← List.length_append] at o5; have O5 := hid o5; have F5 := hid f5; clear o5 f5)
            have B : Hid (w5.ownsRow w.heap.size 5 1 v5 (catI ks (k + 1)).length (bv (catI ks (k + 1)))) := by
              have h := O5.out
              unfold Hid; rw [HC.out, ← HB.out]; exact h
            have B2 : Hid ((catI ks (k + 1)).length ≤ 65536) := by unfold Hid; rw [HC.out, ← HB.out, List.length_append, ← HA.out, ← HE.out]; exact hsm
            have B3 : Hid (∀ j y, j < k + 1 → ks[j]? = some y → cw 19 y ≤ 400 ∧ encE y = 0) := fun j y hj hy => by
              rcases Nat.lt_or_ge j k with h | h
              · exact RS.out j y h hy
              · have : j = k := by omega
                subst this
                have := HXX.out
                rw [this] at hy
                cases hy
                exact ⟨HCW.out, HN.out.symm⟩
            clear O5
            go_roundw
            case rel => go_light; exact ⟨k + 1, by omega, by go_num, B.out, F5.out, B3.out, B2.out⟩
            case measure => go_light; simp [intOf]; omega
        · go_wp2
          go_ret
          exact ⟨rfl, F3.out⟩
      · rw [decide_eq_false hcw]
        clear hcw
        go_wp2
        go_ret
        exact ⟨rfl, F2.out⟩
    · have hkl : k = len := by omega
      subst hkl
      have R0 : Hid (Rd wr (.slice ab A cb) (bv (resI ks 0))) := by
        have h := Rd.ownN RO.out HA.out
        unfold Hid; rw [resI_all, HKL.out]; exact h
      have HL0 : Hid (A = (resI ks 0).length) := by unfold Hid; rw [resI_all, HKL.out]; exact HA.out
      have HRL : Hid (∀ j, (resI ks j).length ≤ 65536) := fun j => by
        have h := resI_le ks j
        rw [HKL.out, ← HA.out] at h
        omega
      clear RO
      go_wp2_with fail
      go_loopw [3, 7] (fun v5 v9 wq => ∃ (j L c : Nat) (ao : Option Addr), j ≤ k ∧ v9 = .int .i64 (j : Int) ∧ v5 = .slice ao L c ∧ L = (resI ks j).length ∧ Rd wq (.slice ao L c) (bv (resI ks j)) ∧ Fr [] w wq) (fun _ v9 _ => k - (intOf v9).toNat)
      case atStart => exact ⟨0, _, _, _, by omega, rfl, rfl, HL0.out, R0.out, RF.out⟩
      case round =>
        obtain ⟨j, L, c, ao, hj, rfl, rfl, hLj, hr, hf⟩ := hrel
        have QF := hid hf
        have hLb := HRL.out j
        rw [← hLj] at hLb
        clear hf
        by_cases hjk : j < k
        · obtain ⟨x, hx⟩ : ∃ x, ks[j]? = some x := ⟨_, List.getElem?_eq_getElem (by rw [HKL.out]; exact hjk)⟩
          have hla := HLA.out (by omega)
          subst hla
          obtain ⟨l1, b1', i1', p1, p2, p3, p4⟩ := HX.out j x hx
          obtain ⟨x1, x2, x3, x4, x5, x6, rfl, rfl⟩ := p4.cells
          have HP := hid (And.intro p1 (And.intro p2 p3))
          have P4 := hid p4
          obtain ⟨hcw, hen⟩ := RS.out j x hjk hx
          have hst := resI_step hx
          have HCW := hid hcw
          obtain ⟨F, hF⟩ : ∃ F, F = (enc 19 x).length := ⟨_, rfl⟩
          have hF0 : 1 ≤ F := by rw [hF]; exact enc_pos (n := 18) x
          have hL1 : L = F + (resI ks (j + 1)).length := by rw [hLj, hst, List.length_append, ← hF]
          have hbad : bad 19 1 x = 0 := by
            unfold encE at hen
            by_cases h : bad 19 1 x = 0
            · exact h
            · rw [if_pos h] at hen; exact hen
          have HFB : Hid (firstL (resI ks j) = .ok (x, F, cnt 19 x)) := by
            unfold Hid
            rw [hst, hF]
            exact firstL_back hbad (by have := cnt_cw 19 x; omega) (by rw [← hF]; omega)
          obtain ⟨q, off, c', hv, hc', _⟩ := hr.spot (by rw [← hLj]; omega)
          rw [← hLj] at hv hc'
          cases hv
          have RR := hid hr
          have RB : Hid (Rd wr (.slice (some ⟨q, off + F, none⟩) (L - F) (c - F)) (bv (resI ks (j + 1)))) := by
            have h := hr
            rw [hLj] at h
            have h' := h.mid (i := F) (n := L - F) (by rw [← hLj]; omega)
            rw [hst, List.drop_left' hF.symm, List.take_of_length_le (by omega)] at h'
            exact h'
          have HLJ := hid hLj
          have G2 : Hid (L - F = (resI ks (j + 1)).length) := by unfold Hid; omega
          have g1 : F ≤ L := by omega
          have BY := hid (resI_by HBY.out j)
          have j0 : (j : Int) < (k : Int) := by omega
          clear hr hst hLj hL1 hbad hen hcw hx p1 p2 p3 p4 hF
          go_wp2_with fail
          refine (first_c _ RR.out BY.out (by rw [← HLJ.out]; omega)).mono ?_
          rintro e w2 ⟨hT, f2⟩
          rw [HFB.out] at hT
          obtain ⟨v2, rfl, hF2⟩ := hT
          obtain ⟨l2, y1, y2, y3, y4, y5, y6, rfl⟩ := hF2.isV.agg
          have V2 := hid hF2.isV
          have F2 := hid (QF.out.trans f2)
          have RB2 := hid (RB.out.fr f2)
          have FB := hid (F2.out.alloc (.cells #[.bool l2, .slice y1 y2 y3, .slice y4 y5 y6] 25))
          have hBk := hid (blk_new w2 (.cells #[.bool l2, .slice y1 y2 y3, .slice y4 y5 y6] 25))
          have VB := hid (V2.out.fr ((Fr.refl [] w2).alloc (.cells #[.bool l2, .slice y1 y2 y3, .slice y4 y5 y6] 25)))
          have RBB := hid (RB2.out.fr ((Fr.refl [] w2).alloc (.cells #[.bool l2, .slice y1 y2 y3, .slice y4 y5 y6] 25)))
          have hF1 : ¬ (F : Int) < 1 := by omega
          have hF2' : ¬ (L : Int) < (F : Int) := by omega
          clear f2 hF2 V2 RB2
          go_wp2_with fail
          generalize w2.alloc (.cells #[.bool l2, .slice y1 y2 y3, .slice y4 y5 y6] 25) = wB at FB hBk VB RBB ⊢
          generalize w2.heap.size = B at hBk ⊢
          refine wp_region_held_drew (S := fun w' => Fr [] wB w') (by kernel_rfl) (Fr.refl [] wB).drew (fun hH => ?_)
          refine wpAnyH_take (i := 0) (v := .int .i64 0) rfl (by kernel_rfl) (by kernel_rfl) (by kernel_rfl) (fun _ _ _ h => h) (.inl ⟨by kernel_rfl, fun wx _ => by go_simp⟩) hH ?_
          simp only [Act.put]
          refine wpAnyH_take (i := 1) (v := .bool false) rfl (by kernel_rfl) (by kernel_rfl) (by kernel_rfl) (fun _ _ _ h => h) (.inl ⟨by kernel_rfl, fun wx _ => by go_simp⟩) hH ?_
          simp only [Act.put]
          refine wpAnyH_take (i := 2) (v := .bool false) rfl (by kernel_rfl) (by kernel_rfl) (by kernel_rfl) (fun _ _ _ h => h) (.inl ⟨by kernel_rfl, fun wx _ => by go_simp⟩) hH ?_
          simp only [Act.put]
          refine wpAnyH_take (i := 3) (v := .int .i64 (F : Int)) rfl (by kernel_rfl) (by kernel_rfl) (by kernel_rfl) (fun _ _ _ h => h) (.inl ⟨by kernel_rfl, fun wx _ => by go_simp⟩) hH ?_
          simp only [Act.put]
          refine wpAnyH_take (i := 4) (v := .bool false) rfl (by kernel_rfl) (by kernel_rfl) (by kernel_rfl) (fun _ _ _ h => h) (.inl ⟨by kernel_rfl, fun wx _ => by go_simp⟩) hH ?_
          simp only [Act.put]
          refine wpAnyH_take (i := 5) (v := .bool false) rfl (by kernel_rfl) (by kernel_rfl) (by kernel_rfl) (fun _ _ _ h => h) (.inl ⟨by kernel_rfl, fun wx _ => by go_simp⟩) hH ?_
          simp only [Act.put]
          refine wpAnyH_take (i := 6) (v := .bool false) rfl (by kernel_rfl) (by kernel_rfl) (by kernel_rfl) (fun _ _ _ h => h) (.inl ⟨by kernel_rfl, fun wx _ => by go_simp⟩) hH ?_
          simp only [Act.put]
          refine wpAnyH_take (i := 7) (v := .int .i64 (F : Int)) rfl (by kernel_rfl) (by kernel_rfl) (by kernel_rfl) (fun _ _ _ h => h) (.inl ⟨by kernel_rfl, fun wx _ => by go_simp⟩) hH ?_
          simp only [Act.put]
          refine wpAnyH_take (i := 8) (v := .slice (some ⟨q, off, none⟩) L c) rfl (by kernel_rfl) (by kernel_rfl) (by kernel_rfl) (fun _ _ _ h => h) (.inl ⟨by kernel_rfl, fun wx _ => by go_simp⟩) hH ?_
          simp only [Act.put]
          refine wpAnyH_take (i := 9) (v := .int .i64 (L : Int)) rfl (by kernel_rfl) (by kernel_rfl) (by kernel_rfl) (fun _ _ _ h => h) (.inl ⟨by kernel_rfl, fun wx _ => by go_simp⟩) hH ?_
          simp only [Act.put]
          refine wpAnyH_take (i := 10) (v := .bool false) rfl (by kernel_rfl) (by kernel_rfl) (by kernel_rfl) (fun _ _ _ h => h) (.inl ⟨by kernel_rfl, fun wx _ => by go_simp⟩) hH ?_
          simp only [Act.put]
          refine wpAnyH_take (i := 11) (v := .bool false) rfl (by kernel_rfl) (by kernel_rfl) (by kernel_rfl) (fun _ _ _ h => h) (.inl ⟨by kernel_rfl, fun wx _ => by go_simp⟩) hH ?_
          simp only [Act.put]
          refine wpAnyH_take (i := 12) (v := .bool false) rfl (by kernel_rfl) (by kernel_rfl) (by kernel_rfl) (fun _ _ _ h => h) (.inl ⟨by kernel_rfl, fun wx _ => by go_simp⟩) hH ?_
          simp only [Act.put]
          refine wpAnyH_take (i := 13) (v := .agg #[.bool l2, .slice y1 y2 y3, .slice y4 y5 y6]) rfl (by kernel_rfl) (by kernel_rfl) (by kernel_rfl) (fun _ _ _ h => h) (.inl ⟨by kernel_rfl, fun wx h => by 
            have hbk := h.at hBk.out (by simp)
            have z1 := blk_cell hbk 0
            have z2 := blk_cell hbk 1
            have z3 := blk_cell hbk 2
            simp at z1 z2 z3
            go_simp⟩) hH ?_
          simp only [Act.put]
          refine wpAnyH_take (i := 14) (v := .slice (some ⟨kb, ko, none⟩) k lc) rfl (by kernel_rfl) (by kernel_rfl) (by kernel_rfl) (fun _ _ _ h => h) (.inl ⟨by kernel_rfl, fun wx _ => by go_simp⟩) hH ?_
          simp only [Act.put]
          refine wpAnyH_take (i := 15) (v := .int .i64 (j : Int)) rfl (by kernel_rfl) (by kernel_rfl) (by kernel_rfl) (fun _ _ _ h => h) (.inl ⟨by kernel_rfl, fun wx _ => by go_simp⟩) hH ?_
          simp only [Act.put]
          refine wpAnyH_take (i := 16) (v := .pointer (some ⟨kb, ko + j * 3, none⟩)) rfl (by kernel_rfl) (by kernel_rfl) (by kernel_rfl) (fun _ _ _ h => h) (.inl ⟨by kernel_rfl, fun wx _ => by go_simp⟩) hH ?_
          simp only [Act.put]
          refine wpAnyH_take (i := 17) (v := .agg #[.bool l1, .slice x1 x2 x3, .slice x4 x5 x6]) rfl (by kernel_rfl) (by kernel_rfl) (by kernel_rfl) (fun _ _ _ h => h) (.inl ⟨by kernel_rfl, fun wx h => by 
            have z1 := cell_fr HP.out.1 (FB.out.trans h)
            have z2 := cell_fr HP.out.2.1 (FB.out.trans h)
            have z3 := cell_fr HP.out.2.2 (FB.out.trans h)
            go_simp⟩) hH ?_
          simp only [Act.put]
          refine wpAnyH_ready (rs := [18]) (by kernel_rfl) (by simp) ?_
          refine AllReadyH.cons rfl (fun K hK => ?_) AllReadyH.nil
          have HH := hid hH
          clear hH
          go_simp
          refine (same_c 19 _ _ _ x (full_of_cw 19 x HCW.out) (VB.out.fr HH.out) (P4.out.fr (FB.out.trans HH.out))).mono ?_
          rintro r w5 ⟨rfl, f5⟩
          have F5 := hid (HH.out.trans f5)
          refine hK.out _ _ F5.out (fun _ => ?_)
          clear hK K f5
          refine wpAnyH_take (i := 19) (v := .bool false) rfl (by kernel_rfl) (by kernel_rfl) (by kernel_rfl) (fun _ _ _ h => h) (.inl ⟨by kernel_rfl, fun wx _ => by go_simp⟩) F5.out ?_
          simp only [Act.put]
          refine wpAnyH_take (i := 20) (v := .bool false) rfl (by kernel_rfl) (by kernel_rfl) (by kernel_rfl) (fun _ _ _ h => h) (.inl ⟨by kernel_rfl, fun wx _ => by go_simp⟩) F5.out ?_
          simp only [Act.put]
          refine wpAnyH_done (by kernel_rfl) ?_ _
          have RI : Hid (Rd w5 (.slice (if c = F then some ⟨q, off, none⟩ else some ⟨q, off + F, none⟩) (L - F) (c - F)) (bv (resI ks (j + 1)))) := by
            unfold Hid
            by_cases h : c = F
            · rw [if_pos h]; exact Rd.none_ (by rw [← G2.out]; omega) (by omega)
            · rw [if_neg h]; exact RBB.out.fr F5.out
          have FE := hid (FB.out.trans F5.out)
          go_wp2_with fail
          go_roundw
          case rel => go_light; exact ⟨j + 1, L - F, c - F, _, by omega, by go_num, rfl, G2.out, RI.out, FE.out⟩
          case measure => go_light; simp [intOf]; omega
        · have hjk' : j = k := by omega
          subst hjk'
          have hz : resI ks j = [] := by rw [← HKL.out]; exact resI_none ks
          rw [hz] at hLj hr
          have hL0 : L = 0 := hLj
          subst hL0
          have RR := hid hr
          clear hLj hr hz
          go_wp2_with fail
          refine (first_c _ RR.out (fun n hn => by simp at hn) (by simp)).mono ?_
          rintro e w2 ⟨hT, f2⟩
          rw [show firstL [] = .error 41 from rfl] at hT
          have hT' : e = .returned (.tuple #[.agg #[.bool false, .slice none 0 0, .slice none 0 0], .int .i64 0, .int .i64 41]) := hT
          subst hT'
          have F2 := hid (QF.out.trans f2)
          clear f2 hT
          go_wp2
          go_ret
          exact ⟨rfl, F2.out.alloc _⟩

theorem stream_c (w : World) {la : Option Addr} {len lc : Nat} {ks : List (Tr 19)} (hkl : ks.length = len) (hl : len ≤ 140737488355328)
    (hX : 0 < len → ∃ kb ko, la = some ⟨kb, ko, none⟩ ∧ ∀ (j : Nat) (k : Tr 19), ks[j]? = some k → ∃ l bs' is', w.cell? ⟨kb, ko + j * 3, none⟩ = some (.bool l) ∧ w.cell? ⟨kb, ko + j * 3 + 1, none⟩ = some bs' ∧ w.cell? ⟨kb, ko + j * 3 + 2, none⟩ = some is' ∧ IsV w 19 (.agg #[.bool l, bs', is']) k) :
    Calls Try.prog 6 #[.slice la len lc] w fun e w' => e = .returned (.bool true) ∧ Fr [] w w' := by
  by_cases hb : 12 < len
  · exact stream_big w la len lc hb hl
  · rcases Nat.eq_zero_or_pos len with h | h
    · refine stream_small (kb := 0) (ko := 0) w hkl (fun h' => by omega) (fun j k hj => ?_) (by omega)
      rw [List.getElem?_eq_none (by omega)] at hj
      cases hj
    · obtain ⟨kb, ko, e, q⟩ := hX h
      exact stream_small w hkl (fun _ => e) q (by omega)
end Go.Proofs.Ytbpnnchapfpamaa
