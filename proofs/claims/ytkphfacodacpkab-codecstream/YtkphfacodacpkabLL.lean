/-
  The walk of CodecStream.
-/
import Derived.Test.YtkphfacodacpkabLK
import Derived.Test.YtkphfacodacpkabLJ
import Derived.Test.YtkphfacodacpkabAp
import Derived.Deep.Light
namespace Go.Proofs.Ytkphfacodacpkab
open Go.ChangeShapes Go.WideShapes Go.ChangeAt Go.RowKit Go.Deep

theorem cell_fr {w w' : World} {p : Addr} {v : Value} (h : w.cell? p = some v) (hf : Fr [] w w') : w'.cell? p = some v := by
  rw [World.cell?_of_block (w := w) (hf.block _ (World.block_lt_of_cell? w _ h) (by simp))]; exact h

set_option maxRecDepth 20000 in
set_option maxHeartbeats 800000 in
theorem stream_big (w : World) (la na : Option Addr) (len lc ln nc : Nat) (hb : 12 < len ∨ (len ≤ 12 ∧ 12 < ln)) (hl1 : len ≤ 9223372036854775807) (hl2 : ln ≤ 9223372036854775807) :
    Calls Try.prog 5 #[.slice la len lc, .slice na ln nc] w fun e w' => e = .returned (.bool true) ∧ Fr [] w w' := by
  rcases hb with h | ⟨h, h'⟩
  · go_enter Try.func5, Try.ntmps5
    go_wp2_with fail
    refine (known_c w).mono ?_
    rintro e w1 ⟨rfl, f1⟩
    go_wp2
    go_ret
    exact ⟨rfl, f1⟩
  · go_enter Try.func5, Try.ntmps5
    go_wp2_with fail
    refine (known_c w).mono ?_
    rintro e w1 ⟨rfl, f1⟩
    go_wp2
    go_ret
    exact ⟨rfl, f1⟩

set_option maxRecDepth 20000 in
set_option maxHeartbeats 8000000 in
theorem stream_small (w : World) {lb lo nb no len lc ln nc : Nat} {A : Nat → Option Addr} {C : Nat → Nat} {X : Nat → List Nat} {Y : Nat → Nat} {la na : Option Addr}
    (hla : 0 < len → la = some ⟨lb, lo, none⟩) (hna : 0 < ln → na = some ⟨nb, no, none⟩)
    (hX : ∀ r, r < len → w.cell? ⟨lb, lo + r, none⟩ = some (.slice (A r) (X r).length (C r)) ∧ Rd w (.slice (A r) (X r).length (C r)) (bv (X r)) ∧ By (X r) ∧ (X r).length ≤ 140737488355328)
    (hY : ∀ r, r < ln → w.cell? ⟨nb, no + r, none⟩ = some (.int .u64 (Y r : Int)) ∧ Y r < 18446744073709551616) (h1 : len ≤ 12) (h2 : ln ≤ 12) :
    Calls Try.prog 5 #[.slice la len lc, .slice na ln nc] w fun e w' => e = .returned (.bool true) ∧ Fr [] w w' := by
  have HX := hid hX
  have HY := hid hY
  have HLA := hid hla
  have HNA := hid hna
  clear hX hY hla hna
  go_enter Try.func5, Try.ntmps5
  go_wp2_with fail
  refine (known_c w).mono ?_
  rintro e w1 ⟨rfl, f1⟩
  have F1 := hid f1
  clear f1
  go_wp2_with fail
  go_loopw [5, 6] (fun v5 v6 wr => ∃ k : Nat, k ≤ len ∧ v6 = .int .i64 (k : Int) ∧ wr.ownsRow w.heap.size 5 1 v5 (catN (seg X Y ln) k).length (bv (catN (seg X Y ln) k)) ∧ Fr [] w wr ∧ (∀ j, j < k → (X j).length ≤ 500) ∧ (catN (seg X Y ln) k).length ≤ 600 * k) (fun _ v6 _ => len - (intOf v6).toNat)
  case atStart => exact ⟨0, by omega, rfl, World.ownsRow_nil _ _ _ _, F1.out, fun j hj => by omega, by simp [catN]⟩
  case round =>
    obtain ⟨k, hk, rfl, ho, hf, hs, hL⟩ := hrel
    have RO := hid ho
    have RF := hid hf
    have RS := hid hs
    have hsz := hf.size
    clear ho hf hs
    by_cases hlt : k < len
    · obtain ⟨x1, x2, x3', x4⟩ := HX.out k hlt
      have hla := HLA.out (by omega)
      subst hla
      have hcell := cell_fr x1 RF.out
      have XR := hid (x2.fr RF.out)
      have XB := hid x3'
      obtain ⟨m, hm⟩ : ∃ m, m = (X k).length := ⟨_, rfl⟩
      rw [← hm] at hcell x4
      have XM := hid hm
      have XR' : Hid (Rd wr (.slice (A k) m (C k)) (bv (X k))) := by unfold Hid; rw [hm]; exact XR.out
      clear x1 x2 x3' hm
      have j0 : (k : Int) < (len : Int) := by omega
      rcases (show 1048576 < m ∨ (500 < m ∧ m ≤ 1048576) ∨ m ≤ 500 from by omega) with q | ⟨q, q'⟩ | q
      · go_wp2_with fail
        refine (frame_big wr XR'.out (by rw [← XM.out]; exact q)).mono ?_
        rintro e w2 ⟨rfl, rfl⟩
        go_wp2
        go_ret
        exact ⟨by first | (simp; omega) | simp, RF.out⟩
      · go_wp2_with fail
        refine (frame_ok wr XR'.out XB.out (by rw [← XM.out]; exact q')).mono ?_
        rintro e w2 ⟨v2, rfl, o2, f2⟩
        obtain ⟨a2, c2, rfl, _⟩ := ownsRow_slice o2
        have hcell2 := cell_fr hcell f2
        have F2 := hid (RF.out.trans f2)
        clear o2 f2
        go_wp2
        go_ret
        exact ⟨by first | (simp; omega) | simp, F2.out⟩
      · have hsl := seg_len (X := X) (Y := Y) (ln := ln) (i := k) (by rw [← XM.out]; exact q) (fun h => (HY.out k h).2)
        have hcat : catN (seg X Y ln) (k + 1) = catN (seg X Y ln) k ++ seg X Y ln k := rfl
        have hfl : (frameL (X k)).length ≤ 600 := by
          unfold seg at hsl
          rw [List.length_append] at hsl
          omega
        have hlen1 : (catN (seg X Y ln) k).length + (frameL (X k)).length ≤ 140737488355328 := by omega
        have HCAT := hid hcat
        have hL' : (catN (seg X Y ln) (k + 1)).length ≤ 600 * (k + 1) := by rw [hcat, List.length_append]; omega
        have HL' := hid hL'
        have HS' : Hid (∀ j, j < k + 1 → (X j).length ≤ 500) := fun j hj => by
          rcases Nat.lt_or_ge j k with h | h
          · exact RS.out j h
          · have : j = k := by omega
            subst this; rw [← XM.out]; exact q
        clear hcat hL' hsl
        go_wp2_with fail
        refine (frame_ok wr XR'.out XB.out (by rw [← XM.out]; omega)).mono ?_
        rintro e w2 ⟨v2, rfl, o2, f2⟩
        obtain ⟨a2, c2, rfl, _⟩ := ownsRow_slice o2
        have hcell2 := cell_fr hcell f2
        have F2 := hid (RF.out.trans f2)
        have P2 := hid (Rd.ownB o2)
        have O2 := hid (ownsRow_fr RO.out f2)
        clear o2 f2
        by_cases hn : k < ln
        · obtain ⟨y1, y2⟩ := HY.out k hn
          have hna := HNA.out (by omega)
          subst hna
          have j1 : (k : Int) < (ln : Int) := by omega
          have Y1 := hid y1
          have hpl := putL_len10 y2
          have hlen2 : (catN (seg X Y ln) k ++ frameL (X k)).length + (putL (Y k)).length ≤ 140737488355328 := by rw [List.length_append]; omega
          clear y1
          go_wp2_with (at_builtin; refine wpList_append_bv rfl _ _ rfl O2.out rfl F2.out (Nat.le_refl _) F2.out.size _ P2.out rfl hlen1 ?_; intro v3 w3 o3 f3; rw [← List.length_append] at o3; have O3 := hid o3; have F3 := hid f3; have hcelln := cell_fr Y1.out f3; clear o3 f3)
          refine (put_c _ (Y k) y2).mono ?_
          rintro e w4 ⟨v4, rfl, o4, f4⟩
          obtain ⟨a4, c4, rfl, _⟩ := ownsRow_slice o4
          have P4 := hid (Rd.ownB o4)
          have O4 := hid (ownsRow_fr O3.out f4)
          have F4 := hid (F3.out.trans f4)
          clear o4 f4 O3 F3
          go_wp2_with (at_builtin; refine wpList_append_bv rfl _ _ rfl O4.out rfl F4.out (Nat.le_refl _) F4.out.size _ P4.out rfl hlen2 ?_; intro v5 w5 o5 f5; rw [← List.length_append] at o5; have O5 := hid o5; have F5 := hid f5; clear o5 f5)
          have B : Hid (w5.ownsRow w.heap.size 5 1 v5 (catN (seg X Y ln) (k + 1)).length (bv (catN (seg X Y ln) (k + 1)))) := by
            have h := O5.out
            have e : catN (seg X Y ln) (k + 1) = catN (seg X Y ln) k ++ frameL (X k) ++ putL (Y k) := by rw [HCAT.out, seg, if_pos hn, List.append_assoc]
            unfold Hid; rw [e]; exact h
          clear O5 O4 P4
          go_roundw
          case rel => go_light; exact ⟨k + 1, by omega, by go_num, B.out, F5.out, HS'.out, HL'.out⟩
          case measure => go_light; simp [intOf]; omega
        · have j1 : (ln : Int) ≤ (k : Int) := by omega
          go_wp2_with (at_builtin; refine wpList_append_bv rfl _ _ rfl O2.out rfl F2.out (Nat.le_refl _) F2.out.size _ P2.out rfl hlen1 ?_; intro v3 w3 o3 f3; rw [← List.length_append] at o3; have O3 := hid o3; have F3 := hid f3; clear o3 f3)
          have B : Hid (w3.ownsRow w.heap.size 5 1 v3 (catN (seg X Y ln) (k + 1)).length (bv (catN (seg X Y ln) (k + 1)))) := by
            have h := O3.out
            have e : catN (seg X Y ln) (k + 1) = catN (seg X Y ln) k ++ frameL (X k) := by rw [HCAT.out, seg, if_neg hn, List.append_nil]
            unfold Hid; rw [e]; exact h
          clear O3
          go_roundw
          case rel => go_light; exact ⟨k + 1, by omega, by go_num, B.out, F3.out, HS'.out, HL'.out⟩
          case measure => go_light; simp [intOf]; omega
    · have hkl : k = len := by omega
      subst hkl
      obtain ⟨ao0, c0, hv0, _⟩ := ownsRow_slice RO.out
      subst hv0
      have R0 : Hid (Rd wr (.slice ao0 (catN (seg X Y ln) k).length c0) (bv (restN (seg X Y ln) 0 (k - 0)))) := by
        unfold Hid; rw [Nat.sub_zero, restN_all]; exact Rd.ownB RO.out
      have hL0 : (catN (seg X Y ln) k).length = (restN (seg X Y ln) 0 (k - 0)).length := by rw [Nat.sub_zero, restN_all]
      have HRL : Hid (∀ j, j ≤ k → (restN (seg X Y ln) j (k - j)).length ≤ 600 * k) := fun j hj => by
        have h := catN_rest (seg X Y ln) (k - j) j
        rw [show j + (k - j) = k from by omega] at h
        have h' := congrArg List.length h
        rw [List.length_append] at h'
        omega
      have HL0 := hid hL0
      clear hL0 hL
      generalize (catN (seg X Y ln) k).length = L0 at RO R0 HL0 ⊢
      clear RO
      go_wp2_with fail
      go_loopw [5, 9] (fun v5 v9 wq => ∃ (j L c : Nat) (ao : Option Addr), j ≤ k ∧ v9 = .int .i64 (j : Int) ∧ v5 = .slice ao L c ∧ L = (restN (seg X Y ln) j (k - j)).length ∧ Rd wq (.slice ao L c) (bv (restN (seg X Y ln) j (k - j))) ∧ Fr [] w wq) (fun _ v9 _ => k - (intOf v9).toNat)
      case atStart => exact ⟨0, _, _, _, by omega, rfl, rfl, HL0.out, R0.out, RF.out⟩
      case round =>
        obtain ⟨j, L, c, ao, hj, rfl, rfl, hLj, hr, hf⟩ := hrel
        have QF := hid hf
        clear hf
        by_cases hjk : j < k
        · obtain ⟨x1, x2, xb, _⟩ := HX.out j hjk
          have x500 := RS.out j hjk
          have hla := HLA.out (by omega)
          subst hla
          have hcell := cell_fr x1 QF.out
          have XR := hid x2
          have XB := hid xb
          have hst := restN_step (seg X Y ln) hjk
          have hmb : By (restN (seg X Y ln) (j + 1) (k - (j + 1))) := restN_by _ _ fun i h1 h2 => seg_by (HX.out i (by omega)).2.2.1
          have hml := HRL.out (j + 1) hjk
          obtain ⟨F, hF⟩ : ∃ F, F = (frameL (X j)).length := ⟨_, rfl⟩
          have hF0 : 0 < F := by rw [hF, frameL_len]; omega
          have HF := hid hF
          obtain ⟨m, hm⟩ : ∃ m, m = (X j).length := ⟨_, rfl⟩
          rw [← hm] at hcell x500
          have HMX := hid hm
          obtain ⟨tl, htl⟩ : ∃ tl, tl = restN (seg X Y ln) (j + 1) (k - (j + 1)) := ⟨_, rfl⟩
          rw [← htl] at hst hmb hml
          have HTL := hid htl
          clear htl
          clear x1 x2 xb hF hm
          by_cases hn : j < ln
          · obtain ⟨y1, y2⟩ := HY.out j hn
            have hna := HNA.out (by omega)
            subst hna
            have hpl := putL_len10 y2
            have hpp := putL_pos (Y j)
            have hst' : restN (seg X Y ln) j (k - j) = frameL (X j) ++ (putL (Y j) ++ tl) := by rw [hst, seg, if_pos hn, List.append_assoc]
            obtain ⟨P, hP⟩ : ∃ P, P = (putL (Y j)).length := ⟨_, rfl⟩
            have HP := hid hP
            rw [← hP] at hpl hpp
            have Y1 := hid y1
            have HTK := hid (takeL_put y2 tl)
            rw [← hP] at HTK
            clear hP y1
            rw [hst'] at hLj hr
            have hL1 : L = F + (P + tl.length) := by rw [hLj, List.length_append, List.length_append, HF.out, HP.out]
            rw [hLj] at hr
            obtain ⟨q, off, c', hv, hc'⟩ := hr.place (by rw [← hLj]; omega)
            rw [← hLj] at hv hr hc'
            cases hv
            have RR := hid hr
            have RB : Hid (Rd wr (.slice (some ⟨q, off + F, none⟩) (L - F) (c - F)) (bv (putL (Y j) ++ tl))) := by
              have h := hr
              rw [hLj] at h
              have h' := h.back (q := F) (by rw [List.length_append, HF.out]; omega)
              rw [List.drop_left' HF.out.symm, ← hLj] at h'
              exact h'
            have MB := hid ((putL_by (Y j)).append hmb)
            have RC : Hid (∀ w', Rd w' (.slice (some ⟨q, off + F, none⟩) (L - F) (c - F)) (bv (putL (Y j) ++ tl)) → Rd w' (.slice (some ⟨q, off + F + P, none⟩) (L - F - P) (c - F - P)) (bv tl)) := fun w' h => by
              have e : L - F = (putL (Y j) ++ tl).length := by rw [List.length_append, ← HP.out]; omega
              rw [e] at h ⊢
              have h' := h.back (q := P) (by rw [List.length_append, HP.out]; omega)
              rw [List.drop_left' HP.out.symm] at h'
              exact h'
            have g1 : F ≤ L := by omega
            have g2 : L - F - P = tl.length := by omega
            have g3 : P ≤ L - F := by omega
            have g4 : ¬ c = F := by omega
            have g5 : L - F ≤ c - F := by omega
            have G2 := hid g2
            clear hst hst' hLj hr hL1 g2 hmb
            go_wp2_with fail
            refine (unframe_frame RR.out XB.out MB.out (by rw [← HMX.out]; exact x500) (by rw [List.length_append, ← HP.out]; omega) HF.out).mono ?_
            rintro e w2 ⟨v2, rfl, o2, f2⟩
            rw [← HMX.out] at o2
            obtain ⟨a2, c2, rfl, _⟩ := ownsRow_slice o2
            have P2 := hid (Rd.ownN o2 HMX.out)
            have F2 := hid (QF.out.trans f2)
            have XR2 : Hid (Rd w2 (.slice (A j) m (C j)) (bv (X j))) := by
              have h := XR.out.fr F2.out
              rw [← HMX.out] at h; exact h
            have RB2 := hid (RB.out.fr f2)
            have hcell2 := cell_fr hcell f2
            clear o2 f2
            have j0 : (j : Int) < (k : Int) := by omega
            have j1 : (j : Int) < (ln : Int) := by omega
            have hcelln := cell_fr Y1.out F2.out
            go_wp2_with fail
            refine (bytes_c P2.out XR2.out XB.out XB.out).mono ?_
            rintro e w3 ⟨rfl, rfl⟩
            rw [decide_eq_true rfl]
            have RI : Hid (Rd w3 (.slice (if c - F = P then some ⟨q, off + F, none⟩ else some ⟨q, off + F + P, none⟩) (L - F - P) (c - F - P)) (bv tl)) := by
              unfold Hid
              by_cases h : c - F = P
              · rw [if_pos h]; exact Rd.none_ (by rw [← G2.out]; omega) (by omega)
              · rw [if_neg h]; exact RC.out _ RB2.out
            go_wp2_with fail
            refine (take_t RB2.out MB.out (by rw [List.length_append, ← HP.out]; omega) HTK.out).mono ?_
            rintro e w4 ⟨rfl, rfl⟩
            go_wp2_with fail
            go_roundw
            case rel => go_light; exact ⟨j + 1, L - F - P, c - F - P, _, by omega, by go_num, rfl, by rw [← HTL.out]; exact G2.out, by rw [← HTL.out]; exact RI.out, F2.out⟩
            case measure => go_light; simp [intOf]; omega
          · have hst' : restN (seg X Y ln) j (k - j) = frameL (X j) ++ tl := by rw [hst, seg, if_neg hn, List.append_nil]
            rw [hst'] at hLj hr
            have hL1 : L = F + tl.length := by rw [hLj, List.length_append, HF.out]
            rw [hLj] at hr
            obtain ⟨q, off, c', hv, hc'⟩ := hr.place (by rw [← hLj]; omega)
            rw [← hLj] at hv hr hc'
            cases hv
            have RR := hid hr
            have RB : Hid (Rd wr (.slice (some ⟨q, off + F, none⟩) (L - F) (c - F)) (bv tl)) := by
              have h := hr
              rw [hLj] at h
              have h' := h.back (q := F) (by rw [List.length_append, HF.out]; omega)
              rw [List.drop_left' HF.out.symm, ← hLj] at h'
              exact h'
            have MB := hid hmb
            have g1 : F ≤ L := by omega
            have g2 : L - F = tl.length := by omega
            have G2 := hid g2
            clear hst hst' hLj hr hL1 g2 hmb
            go_wp2_with fail
            refine (unframe_frame RR.out XB.out MB.out (by rw [← HMX.out]; exact x500) (by omega) HF.out).mono ?_
            rintro e w2 ⟨v2, rfl, o2, f2⟩
            rw [← HMX.out] at o2
            obtain ⟨a2, c2, rfl, _⟩ := ownsRow_slice o2
            have P2 := hid (Rd.ownN o2 HMX.out)
            have F2 := hid (QF.out.trans f2)
            have XR2 : Hid (Rd w2 (.slice (A j) m (C j)) (bv (X j))) := by
              have h := XR.out.fr F2.out
              rw [← HMX.out] at h; exact h
            have RB2 := hid (RB.out.fr f2)
            have hcell2 := cell_fr hcell f2
            clear o2 f2
            have j0 : (j : Int) < (k : Int) := by omega
            have j1 : (ln : Int) ≤ (j : Int) := by omega
            go_wp2_with fail
            refine (bytes_c P2.out XR2.out XB.out XB.out).mono ?_
            rintro e w3 ⟨rfl, rfl⟩
            rw [decide_eq_true rfl]
            have RI : Hid (Rd w3 (.slice (if c = F then some ⟨q, off, none⟩ else some ⟨q, off + F, none⟩) (L - F) (c - F)) (bv tl)) := by
              unfold Hid
              by_cases h : c = F
              · rw [if_pos h]; exact Rd.none_ (by rw [← G2.out]; omega) (by omega)
              · rw [if_neg h]; exact RB2.out
            go_wp2_with fail
            go_roundw
            case rel => go_light; exact ⟨j + 1, L - F, c - F, _, by omega, by go_num, rfl, by rw [← HTL.out]; exact G2.out, by rw [← HTL.out]; exact RI.out, F2.out⟩
            case measure => go_light; simp [intOf]; omega
        · have hjk' : j = k := by omega
          subst hjk'
          rw [Nat.sub_self] at hLj
          have hL0 : L = 0 := hLj
          subst hL0
          clear hLj hr
          go_wp2
          go_ret
          exact ⟨rfl, QF.out⟩

theorem stream_c (w : World) {la na : Option Addr} {len lc ln nc : Nat} {A : Nat → Option Addr} {C : Nat → Nat} {X : Nat → List Nat} {Y : Nat → Nat} (hX : Rows2 w la len A C X) (hY : Nums w na ln Y) (hl1 : len ≤ 9223372036854775807) (hl2 : ln ≤ 9223372036854775807) :
    Calls Try.prog 5 #[.slice la len lc, .slice na ln nc] w fun e w' => e = .returned (.bool true) ∧ Fr [] w w' := by
  by_cases hb : 12 < len ∨ (len ≤ 12 ∧ 12 < ln)
  · exact stream_big w la na len lc ln nc hb hl1 hl2
  · have h1 : len ≤ 12 := by omega
    have h2 : ln ≤ 12 := by omega
    obtain ⟨lb, lo, hla, hx⟩ : ∃ lb lo, (0 < len → la = some ⟨lb, lo, none⟩) ∧ ∀ r, r < len → w.cell? ⟨lb, lo + r, none⟩ = some (.slice (A r) (X r).length (C r)) ∧ Rd w (.slice (A r) (X r).length (C r)) (bv (X r)) ∧ By (X r) ∧ (X r).length ≤ 140737488355328 := by
      rcases Nat.eq_zero_or_pos len with h | h
      · exact ⟨0, 0, fun h' => by omega, fun r hr => by omega⟩
      · obtain ⟨lb, lo, e, q⟩ := hX h
        exact ⟨lb, lo, fun _ => e, q⟩
    obtain ⟨nb, no, hna, hy⟩ : ∃ nb no, (0 < ln → na = some ⟨nb, no, none⟩) ∧ ∀ r, r < ln → w.cell? ⟨nb, no + r, none⟩ = some (.int .u64 (Y r : Int)) ∧ Y r < 18446744073709551616 := by
      rcases Nat.eq_zero_or_pos ln with h | h
      · exact ⟨0, 0, fun h' => by omega, fun r hr => by omega⟩
      · obtain ⟨nb, no, e, q⟩ := hY h
        exact ⟨nb, no, fun _ => e, q⟩
    exact stream_small w hla hna hx hy h1 h2
end Go.Proofs.Ytkphfacodacpkab
