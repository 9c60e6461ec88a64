/-
  A key asked for, as of numbers beyond all.
-/
import Derived.Test.YtnnookkcnmgbfaaGreatXQ2
namespace Go.Proofs.YtnnookkcnmgbfaaGreat
open Go.ChangeShapes Go.WideShapes Go.ChangeAt Go.RowKit

set_option maxRecDepth 20000 in
set_option maxHeartbeats 12800000 in
theorem get_foundG (w : World) {p : Nat} {dat flt : List Nat} {ips qs : Ps} {da fa : Option Addr} {dc fc G : Nat} (T : Tab w p dat flt ips da dc fa fc G) {user : List Nat} {sq I J r : Nat} (hq : 72057594037927935 < sq) (D : Fnd dat flt ips qs user 72057594037927935 I J r) {uv : Value} (ru : Rd w uv (bv user)) :
    Calls Tryz.prog 15 #[.pointer (some ⟨p, 0, none⟩), uv, .int .u64 (sq : Int)] w fun e w' => ∃ vv, e = .returned (.tuple #[vv, .int .i64 ((tailN (kA qs J) % 256 : Nat) : Int), .bool true, .int .i64 0]) ∧ Rd w' vv (bv (vA qs J)) ∧ Fr [] w w' := by
  have HT := hid T
  have HD := hid D
  have HU := hid ru
  have hs' : (72057594037927935 : Int) < (sq : Int) := by omega
  have KC := hid (key_ok w ru D.lu 72057594037927935 1 D.ls (by omega))
  have HIS := hid (keyL_is D.lu D.ls (show 1 ≤ 1 by omega))
  have HBK := hid (keyL_by D.bu 72057594037927935 1)
  obtain ⟨ua, uc, hu⟩ := ru.form
  rw [bv_len] at hu
  subst hu
  obtain ⟨la, lc, xa, xc, s⟩ := T.rs I D.hi
  have HS := hid s
  have hIl := D.hi
  have hlI := D.li
  clear T D ru s
  obtain ⟨UL, hUL⟩ : ∃ UL, UL = user.length := ⟨_, rfl⟩
  have HUL := hid hUL
  rw [← hUL] at HU KC ⊢
  clear hUL
  obtain ⟨IL, hIL⟩ : ∃ IL, IL = ips.length := ⟨_, rfl⟩
  have HIL := hid hIL
  rw [← hIL] at hIl hlI
  clear hIL
  go_enter Tryz.func15, Tryz.ntmps15
  go_upto_region 2 with (go_at_call 13; refine KC.out.mono ?_; rintro e W1 ⟨kv, rfl, o1, f1⟩; obtain ⟨ka, kc, rfl, _⟩ := ownsRow_slice o1; have RK := hid (Rd.ownB o1); have F1 := hid f1; clear o1 f1)
  generalize (keyL user 72057594037927935 1).length = KL at RK
  have MC := hid (tmay_c W1 (HT.out.fr F1.out) HD.out.bf HD.out.lf (HU.out.fr F1.out) HD.out.bu (by have := HD.out.lu; omega))
  rw [HD.out.may] at MC
  have c2 : W1.cell? ⟨p, 2, none⟩ = some (.slice (some ⟨G, 0, none⟩) IL IL) := by rw [HIL.out, blk_cell (HT.out.fr F1.out).at']; rfl
  go_upto_region 4 with (go_at_call 52; refine MC.out.mono ?_; rintro e w2 ⟨rfl, h⟩; rw [h]; clear h)
  have BC := hid (bfrom_c W1 (HT.out.fr F1.out) HD.out.ri HD.out.bi HD.out.li RK.out HBK.out HIS.out I HD.out.hI)
  clear MC
  go_upto_region 5 with (go_at_call 53; refine BC.out.mono ?_; rintro e W2 ⟨rfl, f2⟩; have c2 := cell_fr f2 c2; have F2 := hid (F1.out.trans f2); have RK2 := hid (RK.out.fr f2); clear f2)
  have hne : ((I : Int) == (IL : Int)) = false := by rw [beq_eq_false_iff_ne]; omega
  have hIi : (I : Int) < (IL : Int) := by omega
  have s0 := cell_fr F2.out HS.out.c0
  have s1 := cell_fr F2.out HS.out.c1
  have s2 := cell_fr F2.out HS.out.c2
  have s3 := cell_fr F2.out HS.out.c3
  have LG := hid (look_good W2 (HT.out.fr F2.out) HD.out.bd HD.out.ld (nxN ips I) (szA ips I) HD.out.ht (la := la) (lc := lc) (ua := xa) (uc := xc) (ln := (kA ips I).length) (un := (userL (kA ips I)).length) HD.out.sm (HS.out.rl.fr F2.out) (kA_by HD.out.bi I).1 HD.out.bl HD.out.ne HD.out.la)
  generalize nxN ips I = T1 at *
  generalize szA ips I = N1 at *
  generalize (kA ips I).length = LL at *
  generalize (userL (kA ips I)).length = XL at *
  clear BC RK
  go_upto_region 8 with (go_at_call 54; refine LG.out.mono ?_; rintro e W3 ⟨ev, rfl, ck, f3⟩; obtain ⟨ea, ec, hev, hec, kk⟩ := ck.rd; subst hev; have KK := hid kk; have CK := hid ck; have F3 := hid (F2.out.trans f3); have RK3 := hid (RK2.out.fr f3); clear f3 ck kk)
  obtain ⟨eb, eo, hea, kp⟩ := KK.out (List.length_pos_iff.2 HD.out.ne)
  subst hea
  have hjl := HD.out.hj
  have hql : qs.length ≤ 1000000000 := Nat.le_trans (blk_count HD.out.bl) (by rw [wn_len (by have := HD.out.ht; omega)]; have := HD.out.ht; have := HD.out.ld; omega)
  obtain ⟨ja, jc, va, vc, PP⟩ := kp J _ (ps_at hjl)
  obtain ⟨W4, hW4⟩ : ∃ W4, W4 = W3.alloc (.cells #[.int .i64 (T1 : Int), .int .i64 (N1 : Int), .slice la LL lc, .slice xa XL xc, .slice (some ⟨eb, eo, none⟩) qs.length ec, .bool false, .bool false] 112) := ⟨_, rfl⟩
  have F34 : Hid (Fr [] W3 W4) := hid (by rw [hW4]; exact (Fr.refl _ _).alloc _)
  have B4 : Hid (W4.heap[W3.heap.size]? = some (.cells #[.int .i64 (T1 : Int), .int .i64 (N1 : Int), .slice la LL lc, .slice xa XL xc, .slice (some ⟨eb, eo, none⟩) qs.length ec, .bool false, .bool false] 112 (0, 0))) := hid (by rw [hW4]; exact blk_new _ _)
  rw [← hW4]
  clear hW4
  have x5 : W4.cell? ⟨W3.heap.size, 5, none⟩ = some (.bool false) := by rw [blk_cell B4.out]; rfl
  have x6 : W4.cell? ⟨W3.heap.size, 6, none⟩ = some (.bool false) := by rw [blk_cell B4.out]; rfl
  have EC := hid (errno0_c W4)
  go_upto_region 11 with (go_at_call 55; refine EC.out.mono ?_; rintro e W5 ⟨rfl, f5⟩; have F45 := hid f5; clear f5)
  have F35 := hid (F34.out.trans F45.out)
  have F5 := hid (F3.out.trans F35.out)
  have PJ := hid (PP.fr F35.out)
  have RQ := hid (CK.out.rd.fr F35.out)
  have RK5 := hid (RK3.out.fr F35.out)
  have B5 := hid (F45.out.at B4.out (by simp))
  have hKJ := rises_isK HD.out.bl.rises hjl
  have HKJ := hid hKJ
  have hKl := isK_len hKJ
  clear PP kp KK CK x5 x6 EC LG s0 s1 s2 s3 c2 hKJ
  have EF : Hid (∀ W, Fr [] W5 W → Calls Tryz.prog 56 #[.slice (some ⟨eb, eo, none⟩) qs.length ec, .slice ka KL kc] W fun e w' => e = .returned (.int .i64 (J : Int)) ∧ Fr [] W w') := hid (fun W f => efrom_c W (RQ.out.fr f) HD.out.bl.rises hql (RK5.out.fr f) HBK.out HIS.out J HD.out.hJ)
  obtain ⟨kl, hkl⟩ : ∃ kl, kl = (kA qs J).length := ⟨_, rfl⟩
  obtain ⟨vl, hvl⟩ : ∃ vl, vl = (vA qs J).length := ⟨_, rfl⟩
  have HKL := hid hkl
  have HVL := hid hvl
  have SK : Hid (∀ w', Fr [] W5 w' → (fun w' => w'.cell? ⟨W3.heap.size, 4, none⟩ = some (.slice (some ⟨eb, eo, none⟩) qs.length ec) ∧ w'.cell? ⟨eb, eo + J * 2, none⟩ = some (.slice ja kl jc) ∧ w'.cell? ⟨eb, eo + J * 2 + 1, none⟩ = some (.slice va vl vc)) w') := hid (fun w' f => ⟨by rw [blk_cell (f.at B5.out (by simp))]; rfl, by rw [hkl]; exact cell_fr f PJ.out.ck, by rw [hvl]; exact cell_fr f PJ.out.cv⟩)
  rw [← hkl] at hKl
  clear hkl hvl
  generalize qs.length = QL at *
  have hJi : (J : Int) < (QL : Int) := by omega
  refine wp_region_held_drew (S := fun w' => w'.cell? ⟨W3.heap.size, 4, none⟩ = some (.slice (some ⟨eb, eo, none⟩) QL ec) ∧ w'.cell? ⟨eb, eo + J * 2, none⟩ = some (.slice ja kl jc) ∧ w'.cell? ⟨eb, eo + J * 2 + 1, none⟩ = some (.slice va vl vc)) (by kernel_rfl) (SK.out _ (Fr.refl [] W5).drew) (fun hS => ?_)
  refine wpAnyH_take (i := 0) (v := .pointer (some ⟨W3.heap.size, 4, none⟩)) rfl (by kernel_rfl) (by kernel_rfl) (by kernel_rfl) (fun _ _ _ h => h) (.inl ⟨by rfl, fun wx _ => by go_simp⟩) hS ?_
  simp only [Act.put]
  refine wpAnyH_take (i := 1) (v := .slice (some ⟨eb, eo, none⟩) QL ec) rfl (by kernel_rfl) (by kernel_rfl) (by kernel_rfl) (fun _ _ _ h => h) (.inl ⟨by rfl, fun wx hX => by obtain ⟨x0, x1, x2⟩ := hX; go_simp⟩) hS ?_
  simp only [Act.put]
  refine wpAnyH_take (i := 2) (v := .pointer (some ⟨W3.heap.size, 4, none⟩)) rfl (by kernel_rfl) (by kernel_rfl) (by kernel_rfl) (fun _ _ _ h => h) (.inl ⟨by rfl, fun wx _ => by go_simp⟩) hS ?_
  simp only [Act.put]
  refine wpAnyH_take (i := 3) (v := .slice (some ⟨eb, eo, none⟩) QL ec) rfl (by kernel_rfl) (by kernel_rfl) (by kernel_rfl) (fun _ _ _ h => h) (.inl ⟨by rfl, fun wx hX => by obtain ⟨x0, x1, x2⟩ := hX; go_simp⟩) hS ?_
  simp only [Act.put]
  refine wpAnyH_take (i := 4) (v := .slice ka KL kc) rfl (by kernel_rfl) (by kernel_rfl) (by kernel_rfl) (fun _ _ _ h => h) (.inl ⟨by rfl, fun wx _ => by go_simp⟩) hS ?_
  simp only [Act.put]
  clear hS
  refine wpAnyH_ready (rs := [5, 8]) (by kernel_rfl) (by simp) ?_
  refine AllReadyH.cons rfl (fun K hK => ?_) (AllReadyH.cons rfl (fun K hK => ?_) AllReadyH.nil)
  · go_simp
    refine (EF.out _ (Fr.refl [] W5).drew).mono ?_
    rintro e W6 ⟨rfl, f6⟩
    have F6 := hid ((Fr.refl [] W5).drew.trans f6)
    have hS6 := SK.out _ F6.out
    refine hK.out _ _ hS6 (fun _ => ?_)
    clear hK K f6
    refine wpAnyH_take (i := 6) (v := .pointer (some ⟨eb, eo + J * 2, none⟩)) rfl (by kernel_rfl) (by kernel_rfl) (by kernel_rfl) (fun _ _ _ h => h) (.inl ⟨by rfl, fun wx _ => by go_simp⟩) hS6 ?_
    simp only [Act.put]
    refine wpAnyH_take (i := 7) (v := .agg #[.slice ja kl jc, .slice va vl vc]) rfl (by kernel_rfl) (by kernel_rfl) (by kernel_rfl) (fun _ _ _ h => h) (.inl ⟨by rfl, fun wx hX => by obtain ⟨x0, x1, x2⟩ := hX; go_simp⟩) hS6 ?_
    simp only [Act.put]
    refine wpAnyH_ready (rs := [8]) (by kernel_rfl) (by simp) ?_
    refine AllReadyH.cons rfl (fun K hK => ?_) AllReadyH.nil
    go_simp
    refine hK.out _ _ (SK.out _ (F6.out.alloc _)) (fun _ => ?_)
    clear hK K hS6
    refine wpAnyH_ready (rs := [9]) (by kernel_rfl) (by simp) ?_
    refine AllReadyH.cons rfl (fun K hK => ?_) AllReadyH.nil
    go_simp
    refine hK.out _ _ (SK.out _ (F6.out.alloc _)) (fun _ => ?_)
    clear hK K
    refine wpAnyH_done (by kernel_rfl) ?_ _
    obtain ⟨W9, hW9⟩ : ∃ W9, W9 = W6.alloc (.cells #[.slice ja kl jc, .slice va vl vc] 47) := ⟨_, rfl⟩
    have F9 : Hid (Fr [] W5 W9) := hid (by rw [hW9]; exact F6.out.alloc _)
    have B9 : W9.heap[W6.heap.size]? = some (.cells #[.slice ja kl jc, .slice va vl vc] 47 (0, 0)) := by rw [hW9]; exact blk_new _ _
    rw [← hW9]
    clear hW9
    have q0 : W9.cell? ⟨W6.heap.size, 0, none⟩ = some (.slice ja kl jc) := by rw [blk_cell B9]; rfl
    have q1 : W9.cell? ⟨W6.heap.size, 1, none⟩ = some (.slice va vl vc) := by rw [blk_cell B9]; rfl
    have SP := hid (Split_yes W9 (PJ.out.rk.fr F9.out) PJ.out.bk HKJ.out)
    dsimp only at SP
    rw [← HKL.out, HD.out.us, ← HUL.out] at SP
    clear B9
    go_upto_region 13 with (go_at_call 57; refine SP.out.mono ?_; rintro e WA ⟨sv, rfl, oA, fA⟩; obtain ⟨sa, sc, rfl, _⟩ := ownsRow_slice oA; have RA := hid (Rd.ownN oA HUL.out); have FA := hid fA; have q1 := cell_fr fA q1; clear oA fA)
    have FT := hid ((F5.out.trans F9.out).trans FA.out)
    have EQ := hid (bytesEqual_c RA.out (HU.out.fr FT.out) HD.out.bu HD.out.bu)
    rw [decide_eq_true rfl] at EQ
    go_wp2_with (go_at_call 58; refine EQ.out.mono ?_; rintro e wb ⟨rfl, h⟩; rw [h]; clear h)
    refine bodyPost_ret (results_tmp4 rfl _ _ _) rfl ?_
    refine ⟨_, rfl, ?_, FT.out⟩
    have := (PJ.out.rv.fr F9.out).fr FA.out
    dsimp only at this
    rw [← HVL.out] at this
    exact this
  · go_simp
    have FB : Fr [] W5 (W5.alloc (.cells #[.slice none 0 0, .slice none 0 0] 47)).drew := ((Fr.refl _ _).alloc _).drew
    have NB : (W5.alloc (.cells #[.slice none 0 0, .slice none 0 0] 47)).drew.heap[W5.heap.size]? = some (.cells #[.slice none 0 0, .slice none 0 0] 47 (0, 0)) := blk_new _ _
    have EB := EF.out _ FB
    have HFB := hid FB
    have HNB := hid NB
    refine hK.out _ _ (SK.out _ FB) (fun _ => ?_)
    clear hK K FB NB
    refine wpAnyH_ready (rs := [5]) (by kernel_rfl) (by simp) ?_
    refine AllReadyH.cons rfl (fun K hK => ?_) AllReadyH.nil
    go_simp
    refine EB.mono ?_
    rintro e W6 ⟨rfl, f6⟩
    have F6 := hid (HFB.out.trans f6)
    have N6 := hid (f6.at HNB.out (by simp))
    have hS6 := SK.out _ F6.out
    refine hK.out _ _ hS6 (fun _ => ?_)
    clear hK K f6 EB
    refine wpAnyH_take (i := 6) (v := .pointer (some ⟨eb, eo + J * 2, none⟩)) rfl (by kernel_rfl) (by kernel_rfl) (by kernel_rfl) (fun _ _ _ h => h) (.inl ⟨by rfl, fun wx _ => by go_simp⟩) hS6 ?_
    simp only [Act.put]
    refine wpAnyH_take (i := 7) (v := .agg #[.slice ja kl jc, .slice va vl vc]) rfl (by kernel_rfl) (by kernel_rfl) (by kernel_rfl) (fun _ _ _ h => h) (.inl ⟨by rfl, fun wx hX => by obtain ⟨x0, x1, x2⟩ := hX; go_simp⟩) hS6 ?_
    simp only [Act.put]
    have n6 := N6.out
    have z0 : W6.cell? ⟨W5.heap.size, 0, none⟩ = some (.slice none 0 0) := by rw [blk_cell n6]; rfl
    have z1 : W6.cell? ⟨W5.heap.size, 1, none⟩ = some (.slice none 0 0) := by rw [blk_cell n6]; rfl
    have zf := blk_frozen n6
    have hsX : W5.heap.size ≤ W5.heap.size := Nat.le_refl _
    have hS7 := SK.out _ ((F6.out.set (p := W5.heap.size) 0 (.slice ja kl jc) (.inr hsX)).set (p := W5.heap.size) 1 (.slice va vl vc) (.inr hsX))
    clear hS6 n6
    refine wpAnyH_ready (rs := [9]) (by kernel_rfl) (by simp) ?_
    refine AllReadyH.cons rfl (fun K hK => ?_) AllReadyH.nil
    go_simp
    refine hK.out _ _ hS7 (fun _ => ?_)
    clear hK K
    refine wpAnyH_done (by kernel_rfl) ?_ _
    obtain ⟨W9, hW9⟩ : ∃ W9, W9 = (W6.setCell ⟨W5.heap.size, 0, none⟩ (.slice ja kl jc)).setCell ⟨W5.heap.size, 1, none⟩ (.slice va vl vc) := ⟨_, rfl⟩
    have F9 : Hid (Fr [] W5 W9) := hid (by rw [hW9]; exact (F6.out.set (p := W5.heap.size) 0 (.slice ja kl jc) (.inr hsX)).set (p := W5.heap.size) 1 (.slice va vl vc) (.inr hsX))
    have B9 : W9.heap[W5.heap.size]? = some (.cells #[.slice ja kl jc, .slice va vl vc] 47 (0, 0)) := by rw [hW9]; rw [blk_set (blk_set N6.out 0 _) 1 _]; rfl
    rw [← hW9]
    clear hW9
    have q0 : W9.cell? ⟨W5.heap.size, 0, none⟩ = some (.slice ja kl jc) := by rw [blk_cell B9]; rfl
    have q1 : W9.cell? ⟨W5.heap.size, 1, none⟩ = some (.slice va vl vc) := by rw [blk_cell B9]; rfl
    have SP := hid (Split_yes W9 (PJ.out.rk.fr F9.out) PJ.out.bk HKJ.out)
    dsimp only at SP
    rw [← HKL.out, HD.out.us, ← HUL.out] at SP
    clear B9 z0 z1 zf hS7
    go_upto_region 13 with (go_at_call 57; refine SP.out.mono ?_; rintro e WA ⟨sv, rfl, oA, fA⟩; obtain ⟨sa, sc, rfl, _⟩ := ownsRow_slice oA; have RA := hid (Rd.ownN oA HUL.out); have FA := hid fA; have q1 := cell_fr fA q1; clear oA fA)
    have FT := hid ((F5.out.trans F9.out).trans FA.out)
    have EQ := hid (bytesEqual_c RA.out (HU.out.fr FT.out) HD.out.bu HD.out.bu)
    rw [decide_eq_true rfl] at EQ
    go_wp2_with (go_at_call 58; refine EQ.out.mono ?_; rintro e wb ⟨rfl, h⟩; rw [h]; clear h)
    refine bodyPost_ret (results_tmp4 rfl _ _ _) rfl ?_
    refine ⟨_, rfl, ?_, FT.out⟩
    have := (PJ.out.rv.fr F9.out).fr FA.out
    dsimp only at this
    rw [← HVL.out] at this
    exact this
set_option maxRecDepth 20000 in
set_option maxHeartbeats 12800000 in
theorem get_otherG (w : World) {p : Nat} {dat flt : List Nat} {ips qs : Ps} {da fa : Option Addr} {dc fc G : Nat} (T : Tab w p dat flt ips da dc fa fc G) {user : List Nat} {sq I J r : Nat} (hq : 72057594037927935 < sq) (D : Fno dat flt ips qs user 72057594037927935 I J r) {uv : Value} (ru : Rd w uv (bv user)) :
    Calls Tryz.prog 15 #[.pointer (some ⟨p, 0, none⟩), uv, .int .u64 (sq : Int)] w fun e w' => e = .returned (.tuple #[.slice none 0 0, .int .i64 0, .bool false, .int .i64 0]) ∧ Fr [] w w' := by
  have HT := hid T
  have HD := hid D
  have HU := hid ru
  have hs' : (72057594037927935 : Int) < (sq : Int) := by omega
  have KC := hid (key_ok w ru D.lu 72057594037927935 1 D.ls (by omega))
  have HIS := hid (keyL_is D.lu D.ls (show 1 ≤ 1 by omega))
  have HBK := hid (keyL_by D.bu 72057594037927935 1)
  obtain ⟨ua, uc, hu⟩ := ru.form
  rw [bv_len] at hu
  subst hu
  obtain ⟨la, lc, xa, xc, s⟩ := T.rs I D.hi
  have HS := hid s
  have hIl := D.hi
  have hlI := D.li
  clear T D ru s
  obtain ⟨UL, hUL⟩ : ∃ UL, UL = user.length := ⟨_, rfl⟩
  have HUL := hid hUL
  rw [← hUL] at HU KC ⊢
  clear hUL
  obtain ⟨IL, hIL⟩ : ∃ IL, IL = ips.length := ⟨_, rfl⟩
  have HIL := hid hIL
  rw [← hIL] at hIl hlI
  clear hIL
  go_enter Tryz.func15, Tryz.ntmps15
  go_upto_region 2 with (go_at_call 13; refine KC.out.mono ?_; rintro e W1 ⟨kv, rfl, o1, f1⟩; obtain ⟨ka, kc, rfl, _⟩ := ownsRow_slice o1; have RK := hid (Rd.ownB o1); have F1 := hid f1; clear o1 f1)
  generalize (keyL user 72057594037927935 1).length = KL at RK
  have MC := hid (tmay_c W1 (HT.out.fr F1.out) HD.out.bf HD.out.lf (HU.out.fr F1.out) HD.out.bu (by have := HD.out.lu; omega))
  rw [HD.out.may] at MC
  have c2 : W1.cell? ⟨p, 2, none⟩ = some (.slice (some ⟨G, 0, none⟩) IL IL) := by rw [HIL.out, blk_cell (HT.out.fr F1.out).at']; rfl
  go_upto_region 4 with (go_at_call 52; refine MC.out.mono ?_; rintro e w2 ⟨rfl, h⟩; rw [h]; clear h)
  have BC := hid (bfrom_c W1 (HT.out.fr F1.out) HD.out.ri HD.out.bi HD.out.li RK.out HBK.out HIS.out I HD.out.hI)
  clear MC
  go_upto_region 5 with (go_at_call 53; refine BC.out.mono ?_; rintro e W2 ⟨rfl, f2⟩; have c2 := cell_fr f2 c2; have F2 := hid (F1.out.trans f2); have RK2 := hid (RK.out.fr f2); clear f2)
  have hne : ((I : Int) == (IL : Int)) = false := by rw [beq_eq_false_iff_ne]; omega
  have hIi : (I : Int) < (IL : Int) := by omega
  have s0 := cell_fr F2.out HS.out.c0
  have s1 := cell_fr F2.out HS.out.c1
  have s2 := cell_fr F2.out HS.out.c2
  have s3 := cell_fr F2.out HS.out.c3
  have LG := hid (look_good W2 (HT.out.fr F2.out) HD.out.bd HD.out.ld (nxN ips I) (szA ips I) HD.out.ht (la := la) (lc := lc) (ua := xa) (uc := xc) (ln := (kA ips I).length) (un := (userL (kA ips I)).length) HD.out.sm (HS.out.rl.fr F2.out) (kA_by HD.out.bi I).1 HD.out.bl HD.out.ne HD.out.la)
  generalize nxN ips I = T1 at *
  generalize szA ips I = N1 at *
  generalize (kA ips I).length = LL at *
  generalize (userL (kA ips I)).length = XL at *
  clear BC RK
  go_upto_region 8 with (go_at_call 54; refine LG.out.mono ?_; rintro e W3 ⟨ev, rfl, ck, f3⟩; obtain ⟨ea, ec, hev, hec, kk⟩ := ck.rd; subst hev; have KK := hid kk; have CK := hid ck; have F3 := hid (F2.out.trans f3); have RK3 := hid (RK2.out.fr f3); clear f3 ck kk)
  obtain ⟨eb, eo, hea, kp⟩ := KK.out (List.length_pos_iff.2 HD.out.ne)
  subst hea
  have hjl := HD.out.hj
  have hql : qs.length ≤ 1000000000 := Nat.le_trans (blk_count HD.out.bl) (by rw [wn_len (by have := HD.out.ht; omega)]; have := HD.out.ht; have := HD.out.ld; omega)
  obtain ⟨ja, jc, va, vc, PP⟩ := kp J _ (ps_at hjl)
  obtain ⟨W4, hW4⟩ : ∃ W4, W4 = W3.alloc (.cells #[.int .i64 (T1 : Int), .int .i64 (N1 : Int), .slice la LL lc, .slice xa XL xc, .slice (some ⟨eb, eo, none⟩) qs.length ec, .bool false, .bool false] 112) := ⟨_, rfl⟩
  have F34 : Hid (Fr [] W3 W4) := hid (by rw [hW4]; exact (Fr.refl _ _).alloc _)
  have B4 : Hid (W4.heap[W3.heap.size]? = some (.cells #[.int .i64 (T1 : Int), .int .i64 (N1 : Int), .slice la LL lc, .slice xa XL xc, .slice (some ⟨eb, eo, none⟩) qs.length ec, .bool false, .bool false] 112 (0, 0))) := hid (by rw [hW4]; exact blk_new _ _)
  rw [← hW4]
  clear hW4
  have x5 : W4.cell? ⟨W3.heap.size, 5, none⟩ = some (.bool false) := by rw [blk_cell B4.out]; rfl
  have x6 : W4.cell? ⟨W3.heap.size, 6, none⟩ = some (.bool false) := by rw [blk_cell B4.out]; rfl
  have EC := hid (errno0_c W4)
  go_upto_region 11 with (go_at_call 55; refine EC.out.mono ?_; rintro e W5 ⟨rfl, f5⟩; have F45 := hid f5; clear f5)
  have F35 := hid (F34.out.trans F45.out)
  have F5 := hid (F3.out.trans F35.out)
  have PJ := hid (PP.fr F35.out)
  have RQ := hid (CK.out.rd.fr F35.out)
  have RK5 := hid (RK3.out.fr F35.out)
  have B5 := hid (F45.out.at B4.out (by simp))
  have hKJ := rises_isK HD.out.bl.rises hjl
  have HKJ := hid hKJ
  have hKl := isK_len hKJ
  clear PP kp KK CK x5 x6 EC LG s0 s1 s2 s3 c2 hKJ
  have EF : Hid (∀ W, Fr [] W5 W → Calls Tryz.prog 56 #[.slice (some ⟨eb, eo, none⟩) qs.length ec, .slice ka KL kc] W fun e w' => e = .returned (.int .i64 (J : Int)) ∧ Fr [] W w') := hid (fun W f => efrom_c W (RQ.out.fr f) HD.out.bl.rises hql (RK5.out.fr f) HBK.out HIS.out J HD.out.hJ)
  obtain ⟨kl, hkl⟩ : ∃ kl, kl = (kA qs J).length := ⟨_, rfl⟩
  obtain ⟨vl, hvl⟩ : ∃ vl, vl = (vA qs J).length := ⟨_, rfl⟩
  have HKL := hid hkl
  have HVL := hid hvl
  have SK : Hid (∀ w', Fr [] W5 w' → (fun w' => w'.cell? ⟨W3.heap.size, 4, none⟩ = some (.slice (some ⟨eb, eo, none⟩) qs.length ec) ∧ w'.cell? ⟨eb, eo + J * 2, none⟩ = some (.slice ja kl jc) ∧ w'.cell? ⟨eb, eo + J * 2 + 1, none⟩ = some (.slice va vl vc)) w') := hid (fun w' f => ⟨by rw [blk_cell (f.at B5.out (by simp))]; rfl, by rw [hkl]; exact cell_fr f PJ.out.ck, by rw [hvl]; exact cell_fr f PJ.out.cv⟩)
  rw [← hkl] at hKl
  clear hkl hvl
  generalize qs.length = QL at *
  have hJi : (J : Int) < (QL : Int) := by omega
  refine wp_region_held_drew (S := fun w' => w'.cell? ⟨W3.heap.size, 4, none⟩ = some (.slice (some ⟨eb, eo, none⟩) QL ec) ∧ w'.cell? ⟨eb, eo + J * 2, none⟩ = some (.slice ja kl jc) ∧ w'.cell? ⟨eb, eo + J * 2 + 1, none⟩ = some (.slice va vl vc)) (by kernel_rfl) (SK.out _ (Fr.refl [] W5).drew) (fun hS => ?_)
  refine wpAnyH_take (i := 0) (v := .pointer (some ⟨W3.heap.size, 4, none⟩)) rfl (by kernel_rfl) (by kernel_rfl) (by kernel_rfl) (fun _ _ _ h => h) (.inl ⟨by rfl, fun wx _ => by go_simp⟩) hS ?_
  simp only [Act.put]
  refine wpAnyH_take (i := 1) (v := .slice (some ⟨eb, eo, none⟩) QL ec) rfl (by kernel_rfl) (by kernel_rfl) (by kernel_rfl) (fun _ _ _ h => h) (.inl ⟨by rfl, fun wx hX => by obtain ⟨x0, x1, x2⟩ := hX; go_simp⟩) hS ?_
  simp only [Act.put]
  refine wpAnyH_take (i := 2) (v := .pointer (some ⟨W3.heap.size, 4, none⟩)) rfl (by kernel_rfl) (by kernel_rfl) (by kernel_rfl) (fun _ _ _ h => h) (.inl ⟨by rfl, fun wx _ => by go_simp⟩) hS ?_
  simp only [Act.put]
  refine wpAnyH_take (i := 3) (v := .slice (some ⟨eb, eo, none⟩) QL ec) rfl (by kernel_rfl) (by kernel_rfl) (by kernel_rfl) (fun _ _ _ h => h) (.inl ⟨by rfl, fun wx hX => by obtain ⟨x0, x1, x2⟩ := hX; go_simp⟩) hS ?_
  simp only [Act.put]
  refine wpAnyH_take (i := 4) (v := .slice ka KL kc) rfl (by kernel_rfl) (by kernel_rfl) (by kernel_rfl) (fun _ _ _ h => h) (.inl ⟨by rfl, fun wx _ => by go_simp⟩) hS ?_
  simp only [Act.put]
  clear hS
  refine wpAnyH_ready (rs := [5, 8]) (by kernel_rfl) (by simp) ?_
  refine AllReadyH.cons rfl (fun K hK => ?_) (AllReadyH.cons rfl (fun K hK => ?_) AllReadyH.nil)
  · go_simp
    refine (EF.out _ (Fr.refl [] W5).drew).mono ?_
    rintro e W6 ⟨rfl, f6⟩
    have F6 := hid ((Fr.refl [] W5).drew.trans f6)
    have hS6 := SK.out _ F6.out
    refine hK.out _ _ hS6 (fun _ => ?_)
    clear hK K f6
    refine wpAnyH_take (i := 6) (v := .pointer (some ⟨eb, eo + J * 2, none⟩)) rfl (by kernel_rfl) (by kernel_rfl) (by kernel_rfl) (fun _ _ _ h => h) (.inl ⟨by rfl, fun wx _ => by go_simp⟩) hS6 ?_
    simp only [Act.put]
    refine wpAnyH_take (i := 7) (v := .agg #[.slice ja kl jc, .slice va vl vc]) rfl (by kernel_rfl) (by kernel_rfl) (by kernel_rfl) (fun _ _ _ h => h) (.inl ⟨by rfl, fun wx hX => by obtain ⟨x0, x1, x2⟩ := hX; go_simp⟩) hS6 ?_
    simp only [Act.put]
    refine wpAnyH_ready (rs := [8]) (by kernel_rfl) (by simp) ?_
    refine AllReadyH.cons rfl (fun K hK => ?_) AllReadyH.nil
    go_simp
    refine hK.out _ _ (SK.out _ (F6.out.alloc _)) (fun _ => ?_)
    clear hK K hS6
    refine wpAnyH_ready (rs := [9]) (by kernel_rfl) (by simp) ?_
    refine AllReadyH.cons rfl (fun K hK => ?_) AllReadyH.nil
    go_simp
    refine hK.out _ _ (SK.out _ (F6.out.alloc _)) (fun _ => ?_)
    clear hK K
    refine wpAnyH_done (by kernel_rfl) ?_ _
    obtain ⟨W9, hW9⟩ : ∃ W9, W9 = W6.alloc (.cells #[.slice ja kl jc, .slice va vl vc] 47) := ⟨_, rfl⟩
    have F9 : Hid (Fr [] W5 W9) := hid (by rw [hW9]; exact F6.out.alloc _)
    have B9 : W9.heap[W6.heap.size]? = some (.cells #[.slice ja kl jc, .slice va vl vc] 47 (0, 0)) := by rw [hW9]; exact blk_new _ _
    rw [← hW9]
    clear hW9
    have q0 : W9.cell? ⟨W6.heap.size, 0, none⟩ = some (.slice ja kl jc) := by rw [blk_cell B9]; rfl
    have q1 : W9.cell? ⟨W6.heap.size, 1, none⟩ = some (.slice va vl vc) := by rw [blk_cell B9]; rfl
    have SP := hid (Split_yes W9 (PJ.out.rk.fr F9.out) PJ.out.bk HKJ.out)
    dsimp only at SP
    rw [← HKL.out] at SP
    clear B9
    go_upto_region 13 with (go_at_call 57; refine SP.out.mono ?_; rintro e WA ⟨sv, rfl, oA, fA⟩; obtain ⟨sa, sc, rfl, _⟩ := ownsRow_slice oA; have RA := hid (Rd.ownB oA); have FA := hid fA; have q1 := cell_fr fA q1; clear oA fA)
    have FT := hid ((F5.out.trans F9.out).trans FA.out)
    have EQ := hid (bytesEqual_c RA.out (HU.out.fr FT.out) (show By (userL (kA qs J)) from PJ.out.bk.take _) HD.out.bu)
    rw [decide_eq_false HD.out.us] at EQ
    go_wp2_with (go_at_call 58; refine EQ.out.mono ?_; rintro e wb ⟨rfl, h⟩; rw [h]; clear h)
    refine bodyPost_ret (results_tmp4 rfl _ _ _) rfl ?_
    exact ⟨rfl, FT.out⟩
  · go_simp
    have FB : Fr [] W5 (W5.alloc (.cells #[.slice none 0 0, .slice none 0 0] 47)).drew := ((Fr.refl _ _).alloc _).drew
    have NB : (W5.alloc (.cells #[.slice none 0 0, .slice none 0 0] 47)).drew.heap[W5.heap.size]? = some (.cells #[.slice none 0 0, .slice none 0 0] 47 (0, 0)) := blk_new _ _
    have EB := EF.out _ FB
    have HFB := hid FB
    have HNB := hid NB
    refine hK.out _ _ (SK.out _ FB) (fun _ => ?_)
    clear hK K FB NB
    refine wpAnyH_ready (rs := [5]) (by kernel_rfl) (by simp) ?_
    refine AllReadyH.cons rfl (fun K hK => ?_) AllReadyH.nil
    go_simp
    refine EB.mono ?_
    rintro e W6 ⟨rfl, f6⟩
    have F6 := hid (HFB.out.trans f6)
    have N6 := hid (f6.at HNB.out (by simp))
    have hS6 := SK.out _ F6.out
    refine hK.out _ _ hS6 (fun _ => ?_)
    clear hK K f6 EB
    refine wpAnyH_take (i := 6) (v := .pointer (some ⟨eb, eo + J * 2, none⟩)) rfl (by kernel_rfl) (by kernel_rfl) (by kernel_rfl) (fun _ _ _ h => h) (.inl ⟨by rfl, fun wx _ => by go_simp⟩) hS6 ?_
    simp only [Act.put]
    refine wpAnyH_take (i := 7) (v := .agg #[.slice ja kl jc, .slice va vl vc]) rfl (by kernel_rfl) (by kernel_rfl) (by kernel_rfl) (fun _ _ _ h => h) (.inl ⟨by rfl, fun wx hX => by obtain ⟨x0, x1, x2⟩ := hX; go_simp⟩) hS6 ?_
    simp only [Act.put]
    have n6 := N6.out
    have z0 : W6.cell? ⟨W5.heap.size, 0, none⟩ = some (.slice none 0 0) := by rw [blk_cell n6]; rfl
    have z1 : W6.cell? ⟨W5.heap.size, 1, none⟩ = some (.slice none 0 0) := by rw [blk_cell n6]; rfl
    have zf := blk_frozen n6
    have hsX : W5.heap.size ≤ W5.heap.size := Nat.le_refl _
    have hS7 := SK.out _ ((F6.out.set (p := W5.heap.size) 0 (.slice ja kl jc) (.inr hsX)).set (p := W5.heap.size) 1 (.slice va vl vc) (.inr hsX))
    clear hS6 n6
    refine wpAnyH_ready (rs := [9]) (by kernel_rfl) (by simp) ?_
    refine AllReadyH.cons rfl (fun K hK => ?_) AllReadyH.nil
    go_simp
    refine hK.out _ _ hS7 (fun _ => ?_)
    clear hK K
    refine wpAnyH_done (by kernel_rfl) ?_ _
    obtain ⟨W9, hW9⟩ : ∃ W9, W9 = (W6.setCell ⟨W5.heap.size, 0, none⟩ (.slice ja kl jc)).setCell ⟨W5.heap.size, 1, none⟩ (.slice va vl vc) := ⟨_, rfl⟩
    have F9 : Hid (Fr [] W5 W9) := hid (by rw [hW9]; exact (F6.out.set (p := W5.heap.size) 0 (.slice ja kl jc) (.inr hsX)).set (p := W5.heap.size) 1 (.slice va vl vc) (.inr hsX))
    have B9 : W9.heap[W5.heap.size]? = some (.cells #[.slice ja kl jc, .slice va vl vc] 47 (0, 0)) := by rw [hW9]; rw [blk_set (blk_set N6.out 0 _) 1 _]; rfl
    rw [← hW9]
    clear hW9
    have q0 : W9.cell? ⟨W5.heap.size, 0, none⟩ = some (.slice ja kl jc) := by rw [blk_cell B9]; rfl
    have q1 : W9.cell? ⟨W5.heap.size, 1, none⟩ = some (.slice va vl vc) := by rw [blk_cell B9]; rfl
    have SP := hid (Split_yes W9 (PJ.out.rk.fr F9.out) PJ.out.bk HKJ.out)
    dsimp only at SP
    rw [← HKL.out] at SP
    clear B9 z0 z1 zf hS7
    go_upto_region 13 with (go_at_call 57; refine SP.out.mono ?_; rintro e WA ⟨sv, rfl, oA, fA⟩; obtain ⟨sa, sc, rfl, _⟩ := ownsRow_slice oA; have RA := hid (Rd.ownB oA); have FA := hid fA; have q1 := cell_fr fA q1; clear oA fA)
    have FT := hid ((F5.out.trans F9.out).trans FA.out)
    have EQ := hid (bytesEqual_c RA.out (HU.out.fr FT.out) (show By (userL (kA qs J)) from PJ.out.bk.take _) HD.out.bu)
    rw [decide_eq_false HD.out.us] at EQ
    go_wp2_with (go_at_call 58; refine EQ.out.mono ?_; rintro e wb ⟨rfl, h⟩; rw [h]; clear h)
    refine bodyPost_ret (results_tmp4 rfl _ _ _) rfl ?_
    exact ⟨rfl, FT.out⟩
end Go.Proofs.YtnnookkcnmgbfaaGreat
