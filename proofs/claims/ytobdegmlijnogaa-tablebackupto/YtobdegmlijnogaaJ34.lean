/-
  A key that is there is found.
-/
import Derived.Test.YtobdegmlijnogaaJ26
import Derived.Test.YtobdegmlijnogaaXF
import Derived.Test.YtobdegmlijnogaaJ25
namespace Go.Proofs.Ytobdegmlijnogaa
open Go.ChangeShapes Go.WideShapes Go.ChangeAt Go.RowKit

/-- Where a key is found in a table. -/
structure Fnd (dat flt : List Nat) (ips qs : Ps) (user : List Nat) (seq I J r : Nat) : Prop where
  bd : By dat
  ld : dat.length ≤ 1000000000
  bf : By flt
  lf : flt.length ≤ 1000000000
  ri : Rises ips
  bi : ByP ips
  li : ips.length ≤ 1000000000
  bu : By user
  lu : user.length ≤ 128
  ls : seq ≤ 72057594037927935
  may : mayF flt user = true
  hI : ∀ k, k ≤ ips.length → (k < ips.length → (!decide (ordK (kA ips k) (keyL user seq 1) < 0)) = true) → (0 < k → (!decide (ordK (kA ips (k - 1)) (keyL user seq 1) < 0)) = false) → k = I
  hi : I < ips.length
  ht : nxN ips I + szA ips I + 4 ≤ dat.length
  sm : SumAt dat (nxN ips I) (szA ips I)
  bl : Blk (wn dat (nxN ips I) (szA ips I)) qs r
  ne : qs ≠ []
  la : lastK qs = kA ips I
  hJ : ∀ k, k ≤ qs.length → (k < qs.length → (!decide (ordK (kA qs k) (keyL user seq 1) < 0)) = true) → (0 < k → (!decide (ordK (kA qs (k - 1)) (keyL user seq 1) < 0)) = false) → k = J
  hj : J < qs.length
  us : userL (kA qs J) = user
set_option maxRecDepth 20000 in
set_option maxHeartbeats 12800000 in
theorem get_found (w : World) {p : Nat} {dat flt : List Nat} {ips qs : Ps} {da fa : Option Addr} {dc fc G : Nat} (T : Tab w p dat flt ips da dc fa fc G) {user : List Nat} {seq I J r : Nat} (D : Fnd dat flt ips qs user seq I J r) {uv : Value} (ru : Rd w uv (bv user)) :
    Calls Try.prog 13 #[.pointer (some ⟨p, 0, none⟩), uv, .int .u64 (seq : Int)] w fun e w' => ∃ vv, e = .returned (.tuple #[vv, .int .i64 ((tailN (kA qs J) % 256 : Nat) : Int), .bool true, .int .i64 0]) ∧ Rd w' vv (bv (vA qs J)) ∧ Fr [] w w' := by
  have HT := hid T
  have HD := hid D
  have HU := hid ru
  have hs' : (seq : Int) ≤ 72057594037927935 := by have := D.ls; omega
  have KC := hid (key_ok w ru D.lu seq 1 D.ls (by omega))
  have HIS := hid (keyL_is D.lu D.ls (show 1 ≤ 1 by omega))
  have HBK := hid (keyL_by D.bu seq 1)
  obtain ⟨ua, uc, hu⟩ := ru.form
  rw [bv_len] at hu
  subst hu
  obtain ⟨la, lc, xa, xc, s⟩ := T.rs I D.hi
  have HS := hid s
  have hIl := D.hi
  have hlI := D.li
  clear T D ru s
  obtain ⟨UL, hUL⟩ : ∃ UL, UL = user.length := ⟨_, rfl⟩
  have HUL := hid hUL
  rw [← hUL] at HU KC ⊢
  clear hUL
  obtain ⟨IL, hIL⟩ : ∃ IL, IL = ips.length := ⟨_, rfl⟩
  have HIL := hid hIL
  rw [← hIL] at hIl hlI
  clear hIL
  go_enter Try.func13, Try.ntmps13
  go_upto_region 2 with (go_at_call 19; refine KC.out.mono ?_; rintro e W1 ⟨kv, rfl, o1, f1⟩; obtain ⟨ka, kc, rfl, _⟩ := ownsRow_slice o1; have RK := hid (Rd.ownB o1); have F1 := hid f1; clear o1 f1)
  generalize (keyL user seq 1).length = KL at RK
  have MC := hid (tmay_c W1 (HT.out.fr F1.out) HD.out.bf HD.out.lf (HU.out.fr F1.out) HD.out.bu (by have := HD.out.lu; omega))
  rw [HD.out.may] at MC
  have c2 : W1.cell? ⟨p, 2, none⟩ = some (.slice (some ⟨G, 0, none⟩) IL IL) := by rw [HIL.out, blk_cell (HT.out.fr F1.out).at']; rfl
  go_upto_region 4 with (go_at_call 16; refine MC.out.mono ?_; rintro e w2 ⟨rfl, h⟩; rw [h]; clear h)
  have BC := hid (bfrom_c W1 (HT.out.fr F1.out) HD.out.ri HD.out.bi HD.out.li RK.out HBK.out HIS.out I HD.out.hI)
  clear MC
  go_upto_region 5 with (go_at_call 32; refine BC.out.mono ?_; rintro e W2 ⟨rfl, f2⟩; have c2 := cell_fr f2 c2; have F2 := hid (F1.out.trans f2); have RK2 := hid (RK.out.fr f2); clear f2)
  have hne : ((I : Int) == (IL : Int)) = false := by rw [beq_eq_false_iff_ne]; omega
  have hIi : (I : Int) < (IL : Int) := by omega
  have s0 := cell_fr F2.out HS.out.c0
  have s1 := cell_fr F2.out HS.out.c1
  have s2 := cell_fr F2.out HS.out.c2
  have s3 := cell_fr F2.out HS.out.c3
  have LG := hid (look_good W2 (HT.out.fr F2.out) HD.out.bd HD.out.ld (nxN ips I) (szA ips I) HD.out.ht (la := la) (lc := lc) (ua := xa) (uc := xc) (ln := (kA ips I).length) (un := (userL (kA ips I)).length) HD.out.sm (HS.out.rl.fr F2.out) (kA_by HD.out.bi I).1 HD.out.bl HD.out.ne HD.out.la)
  generalize nxN ips I = T1 at *
  generalize szA ips I = N1 at *
  generalize (kA ips I).length = LL at *
  generalize (userL (kA ips I)).length = XL at *
  clear BC RK
  go_upto_region 8 with (go_at_call 33; refine LG.out.mono ?_; rintro e W3 ⟨ev, rfl, ck, f3⟩; obtain ⟨ea, ec, hev, hec, kk⟩ := ck.rd; subst hev; have KK := hid kk; have CK := hid ck; have F3 := hid (F2.out.trans f3); have RK3 := hid (RK2.out.fr f3); clear f3 ck kk)
  obtain ⟨eb, eo, hea, kp⟩ := KK.out (List.length_pos_iff.2 HD.out.ne)
  subst hea
  have hjl := HD.out.hj
  have hql : qs.length ≤ 1000000000 := Nat.le_trans (blk_count HD.out.bl) (by rw [wn_len (by have := HD.out.ht; omega)]; have := HD.out.ht; have := HD.out.ld; omega)
  obtain ⟨ja, jc, va, vc, PP⟩ := kp J _ (ps_at hjl)
  obtain ⟨W4, hW4⟩ : ∃ W4, W4 = W3.alloc (.cells #[.int .i64 (T1 : Int), .int .i64 (N1 : Int), .slice la LL lc, .slice xa XL xc, .slice (some ⟨eb, eo, none⟩) qs.length ec, .bool false, .bool false] 81) := ⟨_, rfl⟩
  have F34 : Hid (Fr [] W3 W4) := hid (by rw [hW4]; exact (Fr.refl _ _).alloc _)
  have B4 : Hid (W4.heap[W3.heap.size]? = some (.cells #[.int .i64 (T1 : Int), .int .i64 (N1 : Int), .slice la LL lc, .slice xa XL xc, .slice (some ⟨eb, eo, none⟩) qs.length ec, .bool false, .bool false] 81 (0, 0))) := hid (by rw [hW4]; exact blk_new _ _)
  rw [← hW4]
  clear hW4
  have x5 : W4.cell? ⟨W3.heap.size, 5, none⟩ = some (.bool false) := by rw [blk_cell B4.out]; rfl
  have x6 : W4.cell? ⟨W3.heap.size, 6, none⟩ = some (.bool false) := by rw [blk_cell B4.out]; rfl
  have EC := hid (errno0_c W4)
  go_upto_region 11 with (go_at_call 34; refine EC.out.mono ?_; rintro e W5 ⟨rfl, f5⟩; have F45 := hid f5; clear f5)
  have F35 := hid (F34.out.trans F45.out)
  have F5 := hid (F3.out.trans F35.out)
  have PJ := hid (PP.fr F35.out)
  have RQ := hid (CK.out.rd.fr F35.out)
  have RK5 := hid (RK3.out.fr F35.out)
  have B5 := hid (F45.out.at B4.out (by simp))
  have hKJ := rises_isK HD.out.bl.rises hjl
  have HKJ := hid hKJ
  have hKl := isK_len hKJ
  clear PP kp KK CK x5 x6 EC LG s0 s1 s2 s3 c2 hKJ
  have EF : Hid (∀ W, Fr [] W5 W → Calls Try.prog 35 #[.slice (some ⟨eb, eo, none⟩) qs.length ec, .slice ka KL kc] W fun e w' => e = .returned (.int .i64 (J : Int)) ∧ Fr [] W w') := hid (fun W f => efrom_c W (RQ.out.fr f) HD.out.bl.rises hql (RK5.out.fr f) HBK.out HIS.out J HD.out.hJ)
  obtain ⟨kl, hkl⟩ : ∃ kl, kl = (kA qs J).length := ⟨_, rfl⟩
  obtain ⟨vl, hvl⟩ : ∃ vl, vl = (vA qs J).length := ⟨_, rfl⟩
  have HKL := hid hkl
  have HVL := hid hvl
  have SK : Hid (∀ w', Fr [] W5 w' → (fun w' => w'.cell? ⟨W3.heap.size, 4, none⟩ = some (.slice (some ⟨eb, eo, none⟩) qs.length ec) ∧ w'.cell? ⟨eb, eo + J * 2, none⟩ = some (.slice ja kl jc) ∧ w'.cell? ⟨eb, eo + J * 2 + 1, none⟩ = some (.slice va vl vc)) w') := hid (fun w' f => ⟨by rw [blk_cell (f.at B5.out (by simp))]; rfl, by rw [hkl]; exact cell_fr f PJ.out.ck, by rw [hvl]; exact cell_fr f PJ.out.cv⟩)
  rw [← hkl] at hKl
  clear hkl hvl
  generalize qs.length = QL at *
  have hJi : (J : Int) < (QL : Int) := by omega
  refine wp_region_held_drew (S := fun w' => w'.cell? ⟨W3.heap.size, 4, none⟩ = some (.slice (some ⟨eb, eo, none⟩) QL ec) ∧ w'.cell? ⟨eb, eo + J * 2, none⟩ = some (.slice ja kl jc) ∧ w'.cell? ⟨eb, eo + J * 2 + 1, none⟩ = some (.slice va vl vc)) (by kernel_rfl) (SK.out _ (Fr.refl [] W5).drew) (fun hS => ?_)
  refine wpAnyH_take (i := 0) (v := .pointer (some ⟨W3.heap.size, 4, none⟩)) rfl (by kernel_rfl) (by kernel_rfl) (by kernel_rfl) (fun _ _ _ h => h) (.inl ⟨by rfl, fun wx _ => by go_simp⟩) hS ?_
  simp only [Act.put]
  refine wpAnyH_take (i := 1) (v := .slice (some ⟨eb, eo, none⟩) QL ec) rfl (by kernel_rfl) (by kernel_rfl) (by kernel_rfl) (fun _ _ _ h => h) (.inl ⟨by rfl, fun wx hX => by obtain ⟨x0, x1, x2⟩ := hX; go_simp⟩) hS ?_
  simp only [Act.put]
  refine wpAnyH_take (i := 2) (v := .pointer (some ⟨W3.heap.size, 4, none⟩)) rfl (by kernel_rfl) (by kernel_rfl) (by kernel_rfl) (fun _ _ _ h => h) (.inl ⟨by rfl, fun wx _ => by go_simp⟩) hS ?_
  simp only [Act.put]
  refine wpAnyH_take (i := 3) (v := .slice (some ⟨eb, eo, none⟩) QL ec) rfl (by kernel_rfl) (by kernel_rfl) (by kernel_rfl) (fun _ _ _ h => h) (.inl ⟨by rfl, fun wx hX => by obtain ⟨x0, x1, x2⟩ := hX; go_simp⟩) hS ?_
  simp only [Act.put]
  refine wpAnyH_take (i := 4) (v := .slice ka KL kc) rfl (by kernel_rfl) (by kernel_rfl) (by kernel_rfl) (fun _ _ _ h => h) (.inl ⟨by rfl, fun wx _ => by go_simp⟩) hS ?_
  simp only [Act.put]
  clear hS
  refine wpAnyH_ready (rs := [5, 8]) (by kernel_rfl) (by simp) ?_
  refine AllReadyH.cons rfl (fun K hK => ?_) (AllReadyH.cons rfl (fun K hK => ?_) AllReadyH.nil)
  · go_simp
    refine (EF.out _ (Fr.refl [] W5).drew).mono ?_
    rintro e W6 ⟨rfl, f6⟩
    have F6 := hid ((Fr.refl [] W5).drew.trans f6)
    have hS6 := SK.out _ F6.out
    refine hK.out _ _ hS6 (fun _ => ?_)
    clear hK K f6
    refine wpAnyH_take (i := 6) (v := .pointer (some ⟨eb, eo + J * 2, none⟩)) rfl (by kernel_rfl) (by kernel_rfl) (by kernel_rfl) (fun _ _ _ h => h) (.inl ⟨by rfl, fun wx _ => by go_simp⟩) hS6 ?_
    simp only [Act.put]
    refine wpAnyH_take (i := 7) (v := .agg #[.slice ja kl jc, .slice va vl vc]) rfl (by kernel_rfl) (by kernel_rfl) (by kernel_rfl) (fun _ _ _ h => h) (.inl ⟨by rfl, fun wx hX => by obtain ⟨x0, x1, x2⟩ := hX; go_simp⟩) hS6 ?_
    simp only [Act.put]
    refine wpAnyH_ready (rs := [8]) (by kernel_rfl) (by simp) ?_
    refine AllReadyH.cons rfl (fun K hK => ?_) AllReadyH.nil
    go_simp
    refine hK.out _ _ (SK.out _ (F6.out.alloc _)) (fun _ => ?_)
    clear hK K hS6
    refine wpAnyH_ready (rs := [9]) (by kernel_rfl) (by simp) ?_
    refine AllReadyH.cons rfl (fun K hK => ?_) AllReadyH.nil
    go_simp
    refine hK.out _ _ (SK.out _ (F6.out.alloc _)) (fun _ => ?_)
    clear hK K
    refine wpAnyH_done (by kernel_rfl) ?_ _
    obtain ⟨W9, hW9⟩ : ∃ W9, W9 = W6.alloc (.cells #[.slice ja kl jc, .slice va vl vc] 41) := ⟨_, rfl⟩
    have F9 : Hid (Fr [] W5 W9) := hid (by rw [hW9]; exact F6.out.alloc _)
    have B9 : W9.heap[W6.heap.size]? = some (.cells #[.slice ja kl jc, .slice va vl vc] 41 (0, 0)) := by rw [hW9]; exact blk_new _ _
    rw [← hW9]
    clear hW9
    have q0 : W9.cell? ⟨W6.heap.size, 0, none⟩ = some (.slice ja kl jc) := by rw [blk_cell B9]; rfl
    have q1 : W9.cell? ⟨W6.heap.size, 1, none⟩ = some (.slice va vl vc) := by rw [blk_cell B9]; rfl
    have SP := hid (Split_yes W9 (PJ.out.rk.fr F9.out) PJ.out.bk HKJ.out)
    dsimp only at SP
    rw [← HKL.out, HD.out.us, ← HUL.out] at SP
    clear B9
    go_upto_region 13 with (go_at_call 36; refine SP.out.mono ?_; rintro e WA ⟨sv, rfl, oA, fA⟩; obtain ⟨sa, sc, rfl, _⟩ := ownsRow_slice oA; have RA := hid (Rd.ownN oA HUL.out); have FA := hid fA; have q1 := cell_fr fA q1; clear oA fA)
    have FT := hid ((F5.out.trans F9.out).trans FA.out)
    have EQ := hid (bytesEqual_c RA.out (HU.out.fr FT.out) HD.out.bu HD.out.bu)
    rw [decide_eq_true rfl] at EQ
    go_wp2_with (go_at_call 37; refine EQ.out.mono ?_; rintro e wb ⟨rfl, h⟩; rw [h]; clear h)
    refine bodyPost_ret (results_tmp4 rfl _ _ _) rfl ?_
    refine ⟨_, rfl, ?_, FT.out⟩
    have := (PJ.out.rv.fr F9.out).fr FA.out
    dsimp only at this
    rw [← HVL.out] at this
    exact this
  · go_simp
    have FB : Fr [] W5 (W5.alloc (.cells #[.slice none 0 0, .slice none 0 0] 41)).drew := ((Fr.refl _ _).alloc _).drew
    have NB : (W5.alloc (.cells #[.slice none 0 0, .slice none 0 0] 41)).drew.heap[W5.heap.size]? = some (.cells #[.slice none 0 0, .slice none 0 0] 41 (0, 0)) := blk_new _ _
    have EB := EF.out _ FB
    have HFB := hid FB
    have HNB := hid NB
    refine hK.out _ _ (SK.out _ FB) (fun _ => ?_)
    clear hK K FB NB
    refine wpAnyH_ready (rs := [5]) (by kernel_rfl) (by simp) ?_
    refine AllReadyH.cons rfl (fun K hK => ?_) AllReadyH.nil
    go_simp
    refine EB.mono ?_
    rintro e W6 ⟨rfl, f6⟩
    have F6 := hid (HFB.out.trans f6)
    have N6 := hid (f6.at HNB.out (by simp))
    have hS6 := SK.out _ F6.out
    refine hK.out _ _ hS6 (fun _ => ?_)
    clear hK K f6 EB
    refine wpAnyH_take (i := 6) (v := .pointer (some ⟨eb, eo + J * 2, none⟩)) rfl (by kernel_rfl) (by kernel_rfl) (by kernel_rfl) (fun _ _ _ h => h) (.inl ⟨by rfl, fun wx _ => by go_simp⟩) hS6 ?_
    simp only [Act.put]
    refine wpAnyH_take (i := 7) (v := .agg #[.slice ja kl jc, .slice va vl vc]) rfl (by kernel_rfl) (by kernel_rfl) (by kernel_rfl) (fun _ _ _ h => h) (.inl ⟨by rfl, fun wx hX => by obtain ⟨x0, x1, x2⟩ := hX; go_simp⟩) hS6 ?_
    simp only [Act.put]
    have n6 := N6.out
    have z0 : W6.cell? ⟨W5.heap.size, 0, none⟩ = some (.slice none 0 0) := by rw [blk_cell n6]; rfl
    have z1 : W6.cell? ⟨W5.heap.size, 1, none⟩ = some (.slice none 0 0) := by rw [blk_cell n6]; rfl
    have zf := blk_frozen n6
    have hsX : W5.heap.size ≤ W5.heap.size := Nat.le_refl _
    have hS7 := SK.out _ ((F6.out.set (p := W5.heap.size) 0 (.slice ja kl jc) (.inr hsX)).set (p := W5.heap.size) 1 (.slice va vl vc) (.inr hsX))
    clear hS6 n6
    refine wpAnyH_ready (rs := [9]) (by kernel_rfl) (by simp) ?_
    refine AllReadyH.cons rfl (fun K hK => ?_) AllReadyH.nil
    go_simp
    refine hK.out _ _ hS7 (fun _ => ?_)
    clear hK K
    refine wpAnyH_done (by kernel_rfl) ?_ _
    obtain ⟨W9, hW9⟩ : ∃ W9, W9 = (W6.setCell ⟨W5.heap.size, 0, none⟩ (.slice ja kl jc)).setCell ⟨W5.heap.size, 1, none⟩ (.slice va vl vc) := ⟨_, rfl⟩
    have F9 : Hid (Fr [] W5 W9) := hid (by rw [hW9]; exact (F6.out.set (p := W5.heap.size) 0 (.slice ja kl jc) (.inr hsX)).set (p := W5.heap.size) 1 (.slice va vl vc) (.inr hsX))
    have B9 : W9.heap[W5.heap.size]? = some (.cells #[.slice ja kl jc, .slice va vl vc] 41 (0, 0)) := by rw [hW9]; rw [blk_set (blk_set N6.out 0 _) 1 _]; rfl
    rw [← hW9]
    clear hW9
    have q0 : W9.cell? ⟨W5.heap.size, 0, none⟩ = some (.slice ja kl jc) := by rw [blk_cell B9]; rfl
    have q1 : W9.cell? ⟨W5.heap.size, 1, none⟩ = some (.slice va vl vc) := by rw [blk_cell B9]; rfl
    have SP := hid (Split_yes W9 (PJ.out.rk.fr F9.out) PJ.out.bk HKJ.out)
    dsimp only at SP
    rw [← HKL.out, HD.out.us, ← HUL.out] at SP
    clear B9 z0 z1 zf hS7
    go_upto_region 13 with (go_at_call 36; refine SP.out.mono ?_; rintro e WA ⟨sv, rfl, oA, fA⟩; obtain ⟨sa, sc, rfl, _⟩ := ownsRow_slice oA; have RA := hid (Rd.ownN oA HUL.out); have FA := hid fA; have q1 := cell_fr fA q1; clear oA fA)
    have FT := hid ((F5.out.trans F9.out).trans FA.out)
    have EQ := hid (bytesEqual_c RA.out (HU.out.fr FT.out) HD.out.bu HD.out.bu)
    rw [decide_eq_true rfl] at EQ
    go_wp2_with (go_at_call 37; refine EQ.out.mono ?_; rintro e wb ⟨rfl, h⟩; rw [h]; clear h)
    refine bodyPost_ret (results_tmp4 rfl _ _ _) rfl ?_
    refine ⟨_, rfl, ?_, FT.out⟩
    have := (PJ.out.rv.fr F9.out).fr FA.out
    dsimp only at this
    rw [← HVL.out] at this
    exact this
end Go.Proofs.Ytobdegmlijnogaa
namespace Go.Proofs.Ytobdegmlijnogaa
open Go.ChangeShapes Go.WideShapes Go.ChangeAt Go.RowKit

theorem chs_ne {most : Nat} {ps : Ps} (h : ps ≠ []) : chs most ps ≠ [] := by rw [chs_cons h]; simp
/-- What was built is opened as what it was built from. -/
structure TOp (r most bits : Nat) (ps : Ps) : Prop where
  op : Opn (tblL r most bits ps) (idxF r 0 (chs most ps)) 1
  dat : (tblL r most bits ps).take (fAt (tblL r most bits ps)) = datL r (chs most ps)
  flt : wn (tblL r most bits ps) (fAt (tblL r most bits ps)) (fSz (tblL r most bits ps)) = fltL bits (usN ps ps.length)
  len : (tblL r most bits ps).length ≤ 1000000000
  l44 : 44 ≤ (tblL r most bits ps).length
theorem tbl_open {r most bits : Nat} {ps : Ps} (hl : Lim ps) (hr : Rises ps) (hb : ByP ps) (h0 : ps ≠ []) (hbits : bits ≤ 64) : TOp r most bits ps := by
  have hf := chs_flat most ps
  have hD := hl.dat r most
  have hI := hl.idx hr r most
  have hn := hl.n
  have hri := idx_rises (r := r) (t := 0) hf.2 (by rw [hf.1]; exact hr)
  have hbi := idx_by (r := r) _ 0 (by rw [hf.1]; exact hb) hf.2
  have hF := fltL_bd (bits := bits) (rs := usN ps ps.length) hbits (by have := usN_len ps ps.length; omega)
  have hX := (blk_len_le (ps := idxF r 0 (chs most ps)) (r := 1) (by omega)).2
  have L := lay_open (d := datL r (chs most ps)) (f := fltL bits (usN ps ps.length)) (x := blk 1 (idxF r 0 (chs most ps))) (datL_by (by rw [hf.1]; exact hb)) (fltL_by _ _) (blk_by hbi 1) (by omega) (by omega) (by omega)
  have hlen := layL_len (datL r (chs most ps)) (fltL bits (usN ps ps.length)) (blk 1 (idxF r 0 (chs most ps)))
  refine ⟨⟨L.foot, L.sum, L.plc, L.isum, L.fsum, ?_, ?_⟩, L.dat, L.flt, ?_, ?_⟩
  · have e : Blk (blk 1 (idxF r 0 (chs most ps))) (idxF r 0 (chs most ps)) 1 := ⟨hri, by omega, by omega, rfl⟩
    have e2 := L.idx
    rw [← e2] at e
    have e3 : blk 1 (idxF r 0 (chs most ps)) = wn (tblL r most bits ps) (iAt (tblL r most bits ps)) (iSz (tblL r most bits ps)) := e2.symm
    rw [← e3]
    exact ⟨hri, by omega, by omega, rfl⟩
  · have e := L.fa
    have e3 : fAt (tblL r most bits ps) = (datL r (chs most ps)).length := e
    rw [e3]
    exact idx_spans (chs_ne h0) (by omega)
  · show (layL _ _ _).length ≤ _
    rw [hlen]; omega
  · show 44 ≤ (layL _ _ _).length
    rw [hlen]; omega
theorem lim0 : Lim ps0 := ⟨by simp [ps0], by simp [ps0, tot, kA, vA, keyL_len]⟩
theorem ps0_ne : ps0 ≠ [] := by simp [ps0]
theorem chs0 : chs 16 ps0 = [ps0] := by
  have h1 := fil_pos (most := 16) ps0_ne
  have h2 := fil_le 16 ps0
  have h3 : ps0.length = 1 := rfl
  have h4 : fil 16 ps0 = 1 := by omega
  rw [chs_cons ps0_ne, h4]; rfl
theorem idx0 : kA (idxF 1 0 [ps0]) 0 = keyL [97] 1 1 ∧ (idxF 1 0 [ps0]).length = 1 := ⟨rfl, rfl⟩
theorem us0 : usN ps0 1 = [[97]] := by
  show (if (usN ps0 0).getLast? = some (userL (kA ps0 0)) then usN ps0 0 else usN ps0 0 ++ [userL (kA ps0 0)]) = _
  rw [show usN ps0 0 = [] from rfl, if_neg (by simp), show kA ps0 0 = keyL [97] 1 1 from rfl, keyL_user]; rfl
theorem ord0 : ordK (keyL [97] 1 1) (keyL [97] 5 1) = 1 := by
  rw [ordK_key _ _ (by omega) (by omega) (by omega)]
  exact ordP_s2 (x := 0) (by decide) rfl (by omega)
theorem fnd0 : Fnd (datL 1 [ps0]) (fltL 10 (usN ps0 1)) (idxF 1 0 [ps0]) ps0 [97] 5 0 0 1 := by
  have hf := chs_flat 16 ps0
  rw [chs0] at hf
  have hby : ByP [ps0].flatten := by rw [hf.1]; exact by0
  have hri : Rises [ps0].flatten := by rw [hf.1]; exact ps0_rises
  have hld : (datL 1 [ps0]).length ≤ 142000000 := by have := (lim0.dat 1 16).1; rw [chs0] at this; exact this
  have h0 : [ps0][0]? = some ps0 := rfl
  have lk := idx_look (r := 1) (D := [ps0]) hby (by omega) h0
  have hnx := idx_nx (r := 1) (D := [ps0]) (by omega) 0 (by simp)
  have hsz := idx_sz (r := 1) (D := [ps0]) (by omega) h0
  have hle := dat_le (r := 1) (D := [ps0]) h0
  have one : ∀ (P : Nat → Bool), P 0 = true → ∀ k, k ≤ 1 → (k < 1 → P k = true) → (0 < k → P (k - 1) = false) → k = 0 := fun P h k hk _ h2 => by
    rcases Nat.lt_or_ge 0 k with h' | h'
    · have e : k = 1 := by omega
      have := h2 h'
      rw [e, show 1 - 1 = 0 from rfl, h] at this; cases this
    · omega
  have hp : (!decide (ordK (keyL [97] 1 1) (keyL [97] 5 1) < 0)) = true := by rw [ord0]; rfl
  refine ⟨datL_by hby, by omega, fltL_by _ _, ?_, idx_rises hf.2 hri, idx_by _ _ hby hf.2, by rw [idx0.2]; omega, by unfold By; decide, by simp, by omega, ?_, ?_, by rw [idx0.2]; omega, ?_, lk.1, ?_, ps0_ne, rfl, ?_, by simp [ps0], ?_⟩
  · have := fltL_bd (bits := 10) (rs := usN ps0 1) (by omega) (by rw [us0]; simp)
    omega
  · rw [us0]
    exact may_flt (bits := 10) (rs := [[97]]) (i := 0) (by simp)
  · exact one (fun k => !decide (ordK (kA (idxF 1 0 [ps0]) k) (keyL [97] 5 1) < 0)) hp
  · rw [hnx, hsz]; exact hle
  · rw [lk.2]; exact ⟨ps0_rises, by omega, by omega, rfl⟩
  · exact one (fun k => !decide (ordK (kA ps0 k) (keyL [97] 5 1) < 0)) hp
  · show userL (keyL [97] 1 1) = _
    exact keyL_user _ _ _
theorem rd_x (w : World) (x : Nat) : Rd (w.alloc (.cells #[.int .u8 (x : Int)] 5 (1, 2))) (.slice (some ⟨w.heap.size, 0, none⟩) 1 1) (bv [x]) := rd_mark w x
set_option maxRecDepth 20000 in
set_option maxHeartbeats 6400000 in
theorem known8_c (w : World) : Calls Try.prog 7 #[] w fun e w' => e = .returned (.bool true) ∧ Fr [] w w' := by
  have kc := fun (w : World) (C : Array Value) (n c : Nat) => Lib.run_convert_bytes_const (P := Try.prog) w 27 5 C n c Try.underlying27 Try.underlying5
  go_enter Try.func7, Try.ntmps7
  go_wp2_with fail
  refine (key_ok _ (rd_mark w 97) (by simp) 1 1 (by omega) (by omega)).mono ?_
  rintro e w1 ⟨kv, rfl, o1, f1⟩
  obtain ⟨ka, kcp, rfl, hkc⟩ := ownsRow_slice o1
  have O1 := hid o1
  have F1 := hid (((Fr.refl [] w).alloc (.cells #[.int .u8 97] 5 (1, 2))).trans f1)
  have hkl : (keyL [97] 1 1).length = 9 := keyL_len _ _ _
  rw [hkl] at hkc ⊢
  clear o1 f1
  obtain ⟨W2, hW2⟩ : ∃ W, W = (w1.alloc (.cells #[.int .u8 120] 5 (1, 2))).alloc (.cells #[.slice ka 9 kcp, .slice (some ⟨w1.heap.size, 0, none⟩) 1 1] 41) := ⟨_, rfl⟩
  have F12 : Fr [] w1 W2 := by rw [hW2]; exact ((Fr.refl _ _).alloc _).alloc _
  have X2 : W2.heap[w1.heap.size + 1]? = some (.cells #[.slice ka 9 kcp, .slice (some ⟨w1.heap.size, 0, none⟩) 1 1] 41 (0, 0)) := by rw [hW2]; exact new_at _ _ (by simp)
  have RX : Rd W2 (.slice (some ⟨w1.heap.size, 0, none⟩) 1 1) (bv [120]) := by rw [hW2]; exact (rd_mark w1 120).fr ((Fr.refl _ _).alloc _)
  have RKK : RdK W2 (.slice (some ⟨w1.heap.size + 1, 0, none⟩) 1 1) ps0 := by
    refine ⟨_, _, rfl, Nat.le_refl _, fun _ => ⟨_, _, rfl, fun j p hj => ?_⟩⟩
    have h0 : j = 0 := by
      rcases Nat.lt_or_ge j 1 with h | h
      · omega
      · rw [List.getElem?_eq_none (show ps0.length ≤ j from h)] at hj; cases hj
    subst h0
    have hp : (keyL [97] 1 1, [120]) = p := by simpa [ps0] using hj
    subst hp
    refine ⟨ka, kcp, some ⟨w1.heap.size, 0, none⟩, 1, ?_, ?_, ?_, RX, keyL_by (by unfold By; decide) 1 1, by unfold By; decide, by dsimp only; rw [hkl]; omega, by simp⟩
    · dsimp only; rw [blk_cell X2, hkl]; rfl
    · dsimp only; rw [blk_cell X2]; rfl
    · exact (Rd.ownB O1.out).fr F12
  have TO := tbl_open (r := 1) (most := 16) (bits := 10) lim0 ps0_rises by0 ps0_ne (by omega)
  have BO := hid (tbuild_ok W2 RKK lim0 ps0_ne 16 1 10 16 ⟨by omega, by omega, by omega, by omega, by omega, by omega, by omega, by omega⟩ ps0_rises)
  have hby := tblL_by (r := 1) (most := 16) (bits := 10) by0
  have F2 := hid (F1.out.trans F12)
  have HTO := hid TO
  have HBY := hid hby
  clear F12 X2 RX RKK O1 TO hby
  generalize htb : tblL 1 16 10 ps0 = tb at *
  have HTB := hid htb
  clear htb
  go_wp2_with fail
  rw [← hW2]
  clear hW2
  refine BO.out.mono ?_
  rintro e W3 ⟨bvv, rfl, o3, f3⟩
  rcases o3.2 with ⟨e, h0⟩ | ⟨g, cap, cur, e, _⟩
  · have := HTO.out.l44; rw [HTB.out] at this; omega
  subst e
  have F3 := hid (F2.out.trans f3)
  have OP : Hid _ := hid (open_ok W3 (Rd.ownB o3) HBY.out (by have := HTO.out.len; rw [HTB.out] at this; exact this) (by have := HTO.out.op; rw [HTB.out] at this; exact this))
  have OO := hid (Rd.ownB o3)
  clear o3 f3 BO
  go_wp2_with fail
  refine OP.out.mono ?_
  rintro e W4 ⟨p, da, dc, fa, fc, G, rfl, tab, f4⟩
  have hd := HTO.out.dat
  have hfl := HTO.out.flt
  rw [HTB.out] at hd hfl
  rw [hd, hfl, chs0, show ps0.length = 1 from rfl] at tab
  have F4 := hid (F3.out.trans f4)
  have TB := hid tab
  have RU : Hid (Rd (W4.alloc (.cells #[.int .u8 97] 5 (1, 2))) (.slice (some ⟨W4.heap.size, 0, none⟩) 1 1) (bv [97])) := hid (rd_mark W4 97)
  have FA : Hid (Fr [] W4 (W4.alloc (.cells #[.int .u8 97] 5 (1, 2)))) := hid ((Fr.refl _ _).alloc _)
  have GF := hid (get_found _ (TB.out.fr FA.out) fnd0 RU.out)
  have e1 : kA ps0 0 = keyL [97] 1 1 := rfl
  have e2 : vA ps0 0 = [120] := rfl
  rw [e1, e2, keyL_tail [97] (by omega) (by omega)] at GF
  clear tab f4 hd hfl OP OO e1 e2
  go_wp2_with fail
  refine GF.out.mono ?_
  rintro e W5 ⟨vv, rfl, rv, f5⟩
  have F5 := hid ((F4.out.trans FA.out).trans f5)
  have BC := hid (blocks_c W5 ((TB.out.fr FA.out).fr f5))
  rw [idx0.2] at BC
  have cv := run_conv rv
  have hs : strOf [120] = ⟨#[120]⟩ := by decide
  rw [hs] at cv
  obtain ⟨va, vc, hvv⟩ := rv.form
  subst hvv
  have hbeq := ba_beq (⟨#[120]⟩ : ByteArray)
  clear rv f5 GF
  go_wp2_with (go_at_call 20; refine BC.out.mono ?_; rintro e wb ⟨rfl, h⟩; rw [h]; clear h)
  go_ret
  exact ⟨rfl, F5.out⟩
end Go.Proofs.Ytobdegmlijnogaa
