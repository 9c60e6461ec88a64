/-
  Paths are packed and unpacked as the document says.
-/
import Derived.Test.YtdcocgjlfhicaaaDoorJ48
namespace Go.Proofs.YtdcocgjlfhicaaaDoor
open Go.ChangeShapes Go.WideShapes Go.ChangeAt Go.RowKit

theorem Rd.sl {w : World} {v : Value} {l : List Value} (h : Rd w v l) : ∃ a n c, v = .slice a n c := by
  obtain ⟨a, c, e⟩ := h.form
  exact ⟨a, _, c, e⟩
theorem unpF_by {b p : List Nat} {l : Bool} (hb : By b) (h : unpF b = some (p, l)) : By p := by
  have hn := nibF_nb hb
  unfold unpF at h
  split at h
  · cases h
  all_goals first
    | (split at h <;> cases h
       rename_i e _
       exact fun x hx => by have := hn x (by rw [e]; simp [hx]); omega)
    | cases h
set_option maxRecDepth 20000 in
set_option maxHeartbeats 12800000 in
theorem paths_c (w : World) (HT : Tabs w) {pv qv kv : Value} {p b k : List Nat} (leaf : Bool) (hp : Rd w pv (bv p)) (hb : Rd w qv (bv b)) (hk : Rd w kv (bv k)) (hpb : By p) (hbb : By b) (hkb : By k) (hpl : p.length ≤ 140737488355328) (hbl : b.length ≤ 140737488355328) (hkl : k.length ≤ 140737488355328) :
    Calls Tryd.prog 3 #[pv, .bool leaf, qv, kv] w fun e w' => e = .returned (.bool true) ∧ Fr [] w w' := by
  have KN := hid (known_c w HT _ rfl _ rfl)
  obtain ⟨pa, pc, e1⟩ := hp.form
  obtain ⟨ba, bc, e2⟩ := hb.form
  obtain ⟨ka, kc, e3⟩ := hk.form
  rw [bv_len] at e1 e2 e3
  subst e1 e2 e3
  have HTH := hid HT
  have HP := hid hp
  have HB := hid hb
  have HK := hid hk
  obtain ⟨np, hnp⟩ : ∃ n, n = p.length := ⟨_, rfl⟩
  obtain ⟨nb, hnb⟩ : ∃ n, n = b.length := ⟨_, rfl⟩
  obtain ⟨nk, hnk⟩ : ∃ n, n = k.length := ⟨_, rfl⟩
  have HNP := hid hnp
  have HNB := hid hnb
  have HNK := hid hnk
  rw [← hnp] at HP hpl
  rw [← hnb] at HB hbl
  rw [← hnk] at HK hkl
  rw [← hnp, ← hnb, ← hnk]
  clear HT hp hb hk hnp hnb hnk
  have HPB := hid hpb
  have HBB := hid hbb
  have HKB := hid hkb
  clear hpb hbb hkb
  go_enter Tryd.func3, Tryd.ntmps3
  go_upto_region 3 with (go_at_call 9; refine KN.out.mono ?_; rintro e w1 ⟨rfl, f1⟩; have F1 := hid f1; clear f1)
  by_cases h1 : 300 < np
  · have h1' : (300 : Int) < (np : Int) := by omega
    go_wp2
    go_ret
    exact ⟨rfl, F1.out⟩
  have h1' : ¬ (300 : Int) < (np : Int) := by omega
  by_cases h2 : 300 < nb
  · have h2' : (300 : Int) < (nb : Int) := by omega
    go_wp2
    go_ret
    exact ⟨rfl, F1.out⟩
  have h2' : ¬ (300 : Int) < (nb : Int) := by omega
  by_cases h3 : 300 < nk
  · have h3' : (300 : Int) < (nk : Int) := by omega
    go_wp2
    go_ret
    exact ⟨rfl, F1.out⟩
  have h3' : ¬ (300 : Int) < (nk : Int) := by omega
  have PK := hid (fun (w2 : World) (f : Fr [] w w2) => pack_c w2 (HP.out.fr f) HPB.out leaf (by have := HNP.out; omega))
  have RP := hid (fun (w2 : World) (f : Fr [] w w2) => rpack_c w2 (HP.out.fr f) HPB.out leaf (by have := HNP.out; omega))
  have NB := hid (fun (w2 : World) (f : Fr [] w w2) => nib_c w2 (HK.out.fr f) HKB.out (by have := HNK.out; omega))
  have RN := hid (fun (w2 : World) (f : Fr [] w w2) => rnib_c w2 (HK.out.fr f) HKB.out (by have := HNK.out; omega))
  have UB := hid (fun (w2 : World) (f : Fr [] w w2) => unp_c w2 (HB.out.fr f) HBB.out (by have := HNB.out; omega))
  have UR := hid (fun (w2 : World) (f : Fr [] w w2) => runp_c w2 (HB.out.fr f) HBB.out (by have := HNB.out; omega))
  have SM := hid (fun (w2 : World) (f : Fr [] w w2) => refSum_c w2 (HK.out.fr f) HKB.out (by have := HNK.out; omega))
  have SE := hid (fun (w2 : World) (f : Fr [] w w2) => secure_c w2 (HTH.out.fr f) (HK.out.fr f) HKB.out (by have := HNK.out; omega))
  have HNN := hid (nibF_nb HKB.out)
  go_upto_region 6 with (go_at_call 10; refine (PK.out _ F1.out).mono ?_; rintro e w2 ⟨(⟨ok, v2, rfl, O2⟩ | ⟨ok, rfl⟩), f2⟩)
  · have F2 := hid (F1.out.trans f2)
    have R2 := hid (Rd.ownB O2)
    have HOK := hid ok
    clear O2 f2 ok PK
    go_upto_region 7 with (go_at_call 11; refine (RP.out _ F2.out).mono ?_; rintro e w3 ⟨(⟨ok, v3, rfl, O3⟩ | ⟨ok, _⟩), f3⟩; rotate_left; (rw [HOK.out] at ok; cases ok); have F3 := hid (F2.out.trans f3); have R3 := hid (Rd.ownB O3); have R23 := hid (R2.out.fr f3); clear O3 f3 ok RP)
    have B1 := hid (bytes_c R23.out R3.out (packF_by (okP_nb HOK.out) leaf) (packF_by (okP_nb HOK.out) leaf))
    rw [decide_eq_true rfl] at B1
    go_upto_region 9 with (first
      | (go_at_call 12; refine B1.out.mono ?_; rintro e w4 ⟨rfl, h4⟩; rw [h4]; clear h4 B1)
      | (go_at_call 13; refine (NB.out _ F3.out).mono ?_; rintro e w5 ⟨v5, rfl, O5, f5⟩; have F5 := hid (F3.out.trans f5); have F35 := hid f5; have R5 := hid (Rd.ownB O5); clear O5 f5 NB)
      | (go_at_call 14; refine (RN.out _ F5.out).mono ?_; rintro e w6 ⟨v6, rfl, O6, f6⟩; have F6 := hid (F5.out.trans f6); have F36 := hid (F35.out.trans f6); have R6 := hid (Rd.ownB O6); have B2 := hid (bytes_c (R5.out.fr f6) R6.out HNN.out.by HNN.out.by); rw [decide_eq_true rfl] at B2; clear O6 f6 RN R5 R6)
      | (go_at_call 12; refine B2.out.mono ?_; rintro e w7 ⟨rfl, h7⟩; rw [h7]; clear h7 B2))
    have UP := hid (unp_c w6 (R23.out.fr F36.out) (packF_by (okP_nb HOK.out) leaf) (by have := packF_len p leaf; have := okP_len HOK.out; omega))
    have HUP := hid (unp_pack HOK.out leaf)
    go_upto_region 11 with (go_at_call 15; refine UP.out.mono ?_; rintro e w8 ⟨(⟨x, is, v8, hu, rfl, r8⟩ | ⟨hu, _⟩), f8⟩; rotate_left; (rw [HUP.out] at hu; cases hu); (rw [HUP.out] at hu; cases hu); have F8 := hid (F6.out.trans f8); have B3 := hid (bytes_c r8 (HP.out.fr F8.out) HPB.out HPB.out); rw [decide_eq_true rfl] at B3; clear r8 f8 UP)
    go_upto_region 13 with (go_at_call 12; refine B3.out.mono ?_; rintro e w10 ⟨rfl, h10⟩; rw [h10]; clear h10 B3)
    go_upto_region 14 with (go_at_call 15; refine (UB.out _ F8.out).mono ?_; rintro e w11 ⟨(⟨x, is, v11, hu, rfl, r11⟩ | ⟨hu, rfl⟩), f11⟩)
    · have F11 := hid (F8.out.trans f11)
      have R11 := hid r11
      have HU := hid hu
      clear f11 hu UB r11
      go_upto_region 15 with (go_at_call 16; refine (UR.out _ F11.out).mono ?_; rintro e w12 ⟨(⟨y, js, v12, hv, rfl, r12⟩ | ⟨hv, _⟩), f12⟩; rotate_left; (rw [HU.out] at hv; cases hv); (rw [HU.out] at hv; cases hv); have F12 := hid (F11.out.trans f12); have BXY0 := hid (fun (w2 : World) (g : Fr [] w12 w2) => bytes_c ((R11.out.fr f12).fr g) (r12.fr g) (unpF_by HBB.out HU.out) (unpF_by HBB.out HU.out)); rw [decide_eq_true rfl] at BXY0; obtain ⟨xa, nx, xc, rfl⟩ := Rd.sl R11.out; obtain ⟨ya, ny, yc, rfl⟩ := Rd.sl r12; clear f12 r12 UR)
      go_wp2_with fail
      refine (SM.out _ F12.out).mono ?_
      rintro e w13 ⟨rfl, f13⟩
      have F13 := hid (F12.out.trans f13)
      have G13 := hid f13
      clear f13 SM
      rename_i hK
      refine hK _ _ ?_
      refine wpList_made32T (t1 := 22) (t2 := 101) (g := hashOf k) rfl rfl rfl rfl rfl rfl (by simp [Act.eval, Act.put]) (by simp [Act.eval, Act.put]) ?_
      have HR9 : Hid ((w13.alloc (.cells (bvals 32 (hashOf k)) 36)).drew.heap[w13.heap.size]? = some (.cells (bvals 32 (hashOf k)) 36 (0, 0))) := hid (by rw [blk_drew]; exact blk_new _ _)
      have F9 : Hid (Fr [] w (w13.alloc (.cells (bvals 32 (hashOf k)) 36))) := hid (F13.out.alloc _)
      have BXY := hid (BXY0.out (w13.alloc (.cells (bvals 32 (hashOf k)) 36)).drew (G13.out.trans ((Fr.refl _ _).alloc _).drew))
      have SECR := hid (SE.out (w13.alloc (.cells (bvals 32 (hashOf k)) 36)).drew F9.out.drew)
      generalize w13.alloc (.cells (bvals 32 (hashOf k)) 36) = w9 at HR9 F9 BXY SECR ⊢
      clear hK F13 G13 BXY0 SE
      go_upto_region 16 with fail
      refine wp_region_held_drew (S := fun _ => True) (by kernel_rfl) trivial (fun _ => ?_)
      refine wpAnyH_take (i := 0) (v := .int .i64 0) rfl (by kernel_rfl) (by kernel_rfl) (by kernel_rfl) (fun _ _ _ h => h) (.inl ⟨by rfl, fun wx _ => by go_simp⟩) trivial ?_
      simp only [Act.put, List.getElem_toArray, List.getElem_cons_zero, List.setIfInBounds_toArray, List.set_cons_succ, List.set_cons_zero]
      refine wpAnyH_take (i := 1) (v := .int .i64 0) rfl (by kernel_rfl) (by kernel_rfl) (by kernel_rfl) (fun _ _ _ h => h) (.inl ⟨by rfl, fun wx _ => by go_simp⟩) trivial ?_
      simp only [Act.put, List.getElem_toArray, List.getElem_cons_succ, List.getElem_cons_zero, List.setIfInBounds_toArray, List.set_cons_succ, List.set_cons_zero]
      refine wpAnyH_take (i := 2) (v := .bool true) rfl (by kernel_rfl) (by kernel_rfl) (by kernel_rfl) (fun _ _ _ h => h) (.inl ⟨by rfl, fun wx _ => by go_simp⟩) trivial ?_
      simp only [Act.put, List.getElem_toArray, List.getElem_cons_succ, List.getElem_cons_zero, List.setIfInBounds_toArray, List.set_cons_succ, List.set_cons_zero]
      refine wpAnyH_take (i := 3) (v := .bool true) rfl (by kernel_rfl) (by kernel_rfl) (by kernel_rfl) (fun _ _ _ h => h) (.inl ⟨by rfl, fun wx _ => by go_simp⟩) trivial ?_
      simp only [Act.put, List.getElem_toArray, List.getElem_cons_succ, List.getElem_cons_zero, List.setIfInBounds_toArray, List.set_cons_succ, List.set_cons_zero]
      refine wpAnyH_take (i := 4) (v := .bool is) rfl (by kernel_rfl) (by kernel_rfl) (by kernel_rfl) (fun _ _ _ h => h) (.inl ⟨by kernel_rfl, fun wx _ => by go_simp⟩) trivial ?_
      simp only [Act.put, List.getElem_toArray, List.getElem_cons_succ, List.getElem_cons_zero, List.setIfInBounds_toArray, List.set_cons_succ, List.set_cons_zero]
      refine wpAnyH_take (i := 5) (v := .bool is) rfl (by kernel_rfl) (by kernel_rfl) (by kernel_rfl) (fun _ _ _ h => h) (.inl ⟨by kernel_rfl, fun wx _ => by go_simp⟩) trivial ?_
      simp only [Act.put, List.getElem_toArray, List.getElem_cons_succ, List.getElem_cons_zero, List.setIfInBounds_toArray, List.set_cons_succ, List.set_cons_zero]
      refine wpAnyH_take (i := 6) (v := .bool true) rfl (by kernel_rfl) (by kernel_rfl) (by kernel_rfl) (fun _ _ _ h => h) (.inl ⟨by kernel_rfl, fun wx _ => by go_simp⟩) trivial ?_
      simp only [Act.put, List.getElem_toArray, List.getElem_cons_succ, List.getElem_cons_zero, List.setIfInBounds_toArray, List.set_cons_succ, List.set_cons_zero]
      refine wpAnyH_take (i := 7) (v := .bool true) rfl (by kernel_rfl) (by kernel_rfl) (by kernel_rfl) (fun _ _ _ h => h) (.inl ⟨by rfl, fun wx _ => by go_simp⟩) trivial ?_
      simp only [Act.put, List.getElem_toArray, List.getElem_cons_succ, List.getElem_cons_zero, List.setIfInBounds_toArray, List.set_cons_succ, List.set_cons_zero]
      refine wpAnyH_take (i := 8) (v := .bool true) rfl (by kernel_rfl) (by kernel_rfl) (by kernel_rfl) (fun _ _ _ h => h) (.inl ⟨by rfl, fun wx _ => by go_simp⟩) trivial ?_
      simp only [Act.put, List.getElem_toArray, List.getElem_cons_succ, List.getElem_cons_zero, List.setIfInBounds_toArray, List.set_cons_succ, List.set_cons_zero]
      refine wpAnyH_take (i := 9) (v := .slice xa nx xc) rfl (by kernel_rfl) (by kernel_rfl) (by kernel_rfl) (fun _ _ _ h => h) (.inl ⟨by kernel_rfl, fun wx _ => by go_simp⟩) trivial ?_
      simp only [Act.put, List.getElem_toArray, List.getElem_cons_succ, List.getElem_cons_zero, List.setIfInBounds_toArray, List.set_cons_succ, List.set_cons_zero]
      refine wpAnyH_take (i := 10) (v := .slice ya ny yc) rfl (by kernel_rfl) (by kernel_rfl) (by kernel_rfl) (fun _ _ _ h => h) (.inl ⟨by kernel_rfl, fun wx _ => by go_simp⟩) trivial ?_
      simp only [Act.put, List.getElem_toArray, List.getElem_cons_succ, List.getElem_cons_zero, List.setIfInBounds_toArray, List.set_cons_succ, List.set_cons_zero]
      refine wpAnyH_ready (rs := [11]) (by kernel_rfl) (by simp) ?_
      refine AllReadyH.cons rfl (fun K hK => ?_) AllReadyH.nil
      go_simp
      refine BXY.out.mono ?_
      rintro e w20 ⟨rfl, h20⟩
      rw [h20]
      clear h20
      go_simp
      refine hK.out _ _ trivial (fun _ => ?_)
      clear hK K
      refine wpAnyH_take (i := 12) (v := .bool true) rfl (by kernel_rfl) (by kernel_rfl) (by kernel_rfl) (fun _ _ _ h => h) (.inl ⟨by rfl, fun wx _ => by go_simp⟩) trivial ?_
      simp only [Act.put, List.getElem_toArray, List.getElem_cons_succ, List.getElem_cons_zero, List.setIfInBounds_toArray, List.set_cons_succ, List.set_cons_zero]
      refine wpAnyH_take (i := 13) (v := .bool true) rfl (by kernel_rfl) (by kernel_rfl) (by kernel_rfl) (fun _ _ _ h => h) (.inl ⟨by rfl, fun wx _ => by go_simp⟩) trivial ?_
      simp only [Act.put, List.getElem_toArray, List.getElem_cons_succ, List.getElem_cons_zero, List.setIfInBounds_toArray, List.set_cons_succ, List.set_cons_zero]
      refine wpAnyH_take (i := 14) (v := .slice ka nk kc) rfl (by kernel_rfl) (by kernel_rfl) (by kernel_rfl) (fun _ _ _ h => h) (.inl ⟨by kernel_rfl, fun wx _ => by go_simp⟩) trivial ?_
      simp only [Act.put, List.getElem_toArray, List.getElem_cons_succ, List.getElem_cons_zero, List.setIfInBounds_toArray, List.set_cons_succ, List.set_cons_zero]
      have s1 := fun w => slice_hash w w13.heap.size
      refine wpAnyH_take (i := 16) (v := .slice (some ⟨w13.heap.size, 0, none⟩) 32 32) rfl (by kernel_rfl) (by kernel_rfl) (by kernel_rfl) (fun _ _ _ h => h) (.inl ⟨by kernel_rfl, fun wx _ => by have x1 := s1 wx; go_simp⟩) trivial ?_
      simp only [Act.put, List.getElem_toArray, List.getElem_cons_succ, List.getElem_cons_zero, List.setIfInBounds_toArray, List.set_cons_succ, List.set_cons_zero]
      refine wpAnyH_ready (rs := [15]) (by kernel_rfl) (by simp) ?_
      refine AllReadyH.cons rfl (fun K hK => ?_) AllReadyH.nil
      go_simp
      refine SECR.out.mono ?_
      rintro e w21 ⟨sp, rfl, hsp, f21⟩
      have B2 := hid (bytes_c hsp (Rd.hash (blk_frT HR9.out f21)) (hshF_by k) (hshF_by k))
      rw [decide_eq_true rfl] at B2
      have F21 := hid (F9.out.drew.trans f21)
      clear hsp f21
      go_simp
      refine hK.out _ _ trivial (fun _ => ?_)
      clear hK K
      refine wpAnyH_ready (rs := [17]) (by kernel_rfl) (by simp) ?_
      refine AllReadyH.cons rfl (fun K hK => ?_) AllReadyH.nil
      go_simp
      refine B2.out.mono ?_
      rintro e w22 ⟨rfl, h22⟩
      rw [h22]
      clear h22
      go_simp
      refine hK.out _ _ trivial (fun _ => ?_)
      clear hK K
      refine wpAnyH_take (i := 18) (v := .bool true) rfl (by kernel_rfl) (by kernel_rfl) (by kernel_rfl) (fun _ _ _ h => h) (.inl ⟨by rfl, fun wx _ => by go_simp⟩) trivial ?_
      simp only [Act.put, List.getElem_toArray, List.getElem_cons_succ, List.getElem_cons_zero, List.setIfInBounds_toArray, List.set_cons_succ, List.set_cons_zero]
      refine wpAnyH_take (i := 19) (v := .bool true) rfl (by kernel_rfl) (by kernel_rfl) (by kernel_rfl) (fun _ _ _ h => h) (.inl ⟨by rfl, fun wx _ => by go_simp⟩) trivial ?_
      simp only [Act.put, List.getElem_toArray, List.getElem_cons_succ, List.getElem_cons_zero, List.setIfInBounds_toArray, List.set_cons_succ, List.set_cons_zero]
      refine wpAnyH_done (by kernel_rfl) ?_ _
      go_wp2
      go_ret
      exact ⟨rfl, F21.out⟩
    · have F11 := hid (F8.out.trans f11)
      have HU := hid hu
      clear f11 hu UB
      go_upto_region 15 with (go_at_call 16; refine (UR.out _ F11.out).mono ?_; rintro e w12 ⟨(⟨y, js, v12, hv, _⟩ | ⟨hv, rfl⟩), f12⟩; (rw [HU.out] at hv; cases hv); have F12 := hid (F11.out.trans f12); have BXY0 := hid (fun (w2 : World) (_ : Fr [] w12 w2) => bytes_c (w := w2) (v1 := .slice none 0 0) (v2 := .slice none 0 0) (a := []) (b := []) (.inl ⟨rfl, rfl⟩) (.inl ⟨rfl, rfl⟩) (fun x hx => by cases hx) (fun x hx => by cases hx)); rw [decide_eq_true rfl] at BXY0; clear f12 hv UR)
      go_wp2_with fail
      refine (SM.out _ F12.out).mono ?_
      rintro e w13 ⟨rfl, f13⟩
      have F13 := hid (F12.out.trans f13)
      have G13 := hid f13
      clear f13 SM
      rename_i hK
      refine hK _ _ ?_
      refine wpList_made32T (t1 := 22) (t2 := 101) (g := hashOf k) rfl rfl rfl rfl rfl rfl (by simp [Act.eval, Act.put]) (by simp [Act.eval, Act.put]) ?_
      have HR9 : Hid ((w13.alloc (.cells (bvals 32 (hashOf k)) 36)).drew.heap[w13.heap.size]? = some (.cells (bvals 32 (hashOf k)) 36 (0, 0))) := hid (by rw [blk_drew]; exact blk_new _ _)
      have F9 : Hid (Fr [] w (w13.alloc (.cells (bvals 32 (hashOf k)) 36))) := hid (F13.out.alloc _)
      have BXY := hid (BXY0.out (w13.alloc (.cells (bvals 32 (hashOf k)) 36)).drew (G13.out.trans ((Fr.refl _ _).alloc _).drew))
      have SECR := hid (SE.out (w13.alloc (.cells (bvals 32 (hashOf k)) 36)).drew F9.out.drew)
      generalize w13.alloc (.cells (bvals 32 (hashOf k)) 36) = w9 at HR9 F9 BXY SECR ⊢
      clear hK F13 G13 BXY0 SE
      go_upto_region 16 with fail
      refine wp_region_held_drew (S := fun _ => True) (by kernel_rfl) trivial (fun _ => ?_)
      refine wpAnyH_take (i := 0) (v := .int .i64 143) rfl (by kernel_rfl) (by kernel_rfl) (by kernel_rfl) (fun _ _ _ h => h) (.inl ⟨by rfl, fun wx _ => by go_simp⟩) trivial ?_
      simp only [Act.put, List.getElem_toArray, List.getElem_cons_zero, List.setIfInBounds_toArray, List.set_cons_succ, List.set_cons_zero]
      refine wpAnyH_take (i := 1) (v := .int .i64 143) rfl (by kernel_rfl) (by kernel_rfl) (by kernel_rfl) (fun _ _ _ h => h) (.inl ⟨by rfl, fun wx _ => by go_simp⟩) trivial ?_
      simp only [Act.put, List.getElem_toArray, List.getElem_cons_succ, List.getElem_cons_zero, List.setIfInBounds_toArray, List.set_cons_succ, List.set_cons_zero]
      refine wpAnyH_take (i := 2) (v := .bool true) rfl (by kernel_rfl) (by kernel_rfl) (by kernel_rfl) (fun _ _ _ h => h) (.inl ⟨by rfl, fun wx _ => by go_simp⟩) trivial ?_
      simp only [Act.put, List.getElem_toArray, List.getElem_cons_succ, List.getElem_cons_zero, List.setIfInBounds_toArray, List.set_cons_succ, List.set_cons_zero]
      refine wpAnyH_take (i := 3) (v := .bool true) rfl (by kernel_rfl) (by kernel_rfl) (by kernel_rfl) (fun _ _ _ h => h) (.inl ⟨by rfl, fun wx _ => by go_simp⟩) trivial ?_
      simp only [Act.put, List.getElem_toArray, List.getElem_cons_succ, List.getElem_cons_zero, List.setIfInBounds_toArray, List.set_cons_succ, List.set_cons_zero]
      refine wpAnyH_take (i := 4) (v := .bool false) rfl (by kernel_rfl) (by kernel_rfl) (by kernel_rfl) (fun _ _ _ h => h) (.inl ⟨by kernel_rfl, fun wx _ => by go_simp⟩) trivial ?_
      simp only [Act.put, List.getElem_toArray, List.getElem_cons_succ, List.getElem_cons_zero, List.setIfInBounds_toArray, List.set_cons_succ, List.set_cons_zero]
      refine wpAnyH_take (i := 5) (v := .bool false) rfl (by kernel_rfl) (by kernel_rfl) (by kernel_rfl) (fun _ _ _ h => h) (.inl ⟨by kernel_rfl, fun wx _ => by go_simp⟩) trivial ?_
      simp only [Act.put, List.getElem_toArray, List.getElem_cons_succ, List.getElem_cons_zero, List.setIfInBounds_toArray, List.set_cons_succ, List.set_cons_zero]
      refine wpAnyH_take (i := 6) (v := .bool true) rfl (by kernel_rfl) (by kernel_rfl) (by kernel_rfl) (fun _ _ _ h => h) (.inl ⟨by kernel_rfl, fun wx _ => by go_simp⟩) trivial ?_
      simp only [Act.put, List.getElem_toArray, List.getElem_cons_succ, List.getElem_cons_zero, List.setIfInBounds_toArray, List.set_cons_succ, List.set_cons_zero]
      refine wpAnyH_take (i := 7) (v := .bool true) rfl (by kernel_rfl) (by kernel_rfl) (by kernel_rfl) (fun _ _ _ h => h) (.inl ⟨by rfl, fun wx _ => by go_simp⟩) trivial ?_
      simp only [Act.put, List.getElem_toArray, List.getElem_cons_succ, List.getElem_cons_zero, List.setIfInBounds_toArray, List.set_cons_succ, List.set_cons_zero]
      refine wpAnyH_take (i := 8) (v := .bool true) rfl (by kernel_rfl) (by kernel_rfl) (by kernel_rfl) (fun _ _ _ h => h) (.inl ⟨by rfl, fun wx _ => by go_simp⟩) trivial ?_
      simp only [Act.put, List.getElem_toArray, List.getElem_cons_succ, List.getElem_cons_zero, List.setIfInBounds_toArray, List.set_cons_succ, List.set_cons_zero]
      refine wpAnyH_take (i := 9) (v := .slice none 0 0) rfl (by kernel_rfl) (by kernel_rfl) (by kernel_rfl) (fun _ _ _ h => h) (.inl ⟨by kernel_rfl, fun wx _ => by go_simp⟩) trivial ?_
      simp only [Act.put, List.getElem_toArray, List.getElem_cons_succ, List.getElem_cons_zero, List.setIfInBounds_toArray, List.set_cons_succ, List.set_cons_zero]
      refine wpAnyH_take (i := 10) (v := .slice none 0 0) rfl (by kernel_rfl) (by kernel_rfl) (by kernel_rfl) (fun _ _ _ h => h) (.inl ⟨by kernel_rfl, fun wx _ => by go_simp⟩) trivial ?_
      simp only [Act.put, List.getElem_toArray, List.getElem_cons_succ, List.getElem_cons_zero, List.setIfInBounds_toArray, List.set_cons_succ, List.set_cons_zero]
      refine wpAnyH_ready (rs := [11]) (by kernel_rfl) (by simp) ?_
      refine AllReadyH.cons rfl (fun K hK => ?_) AllReadyH.nil
      go_simp
      refine BXY.out.mono ?_
      rintro e w20 ⟨rfl, h20⟩
      rw [h20]
      clear h20
      go_simp
      refine hK.out _ _ trivial (fun _ => ?_)
      clear hK K
      refine wpAnyH_take (i := 12) (v := .bool true) rfl (by kernel_rfl) (by kernel_rfl) (by kernel_rfl) (fun _ _ _ h => h) (.inl ⟨by rfl, fun wx _ => by go_simp⟩) trivial ?_
      simp only [Act.put, List.getElem_toArray, List.getElem_cons_succ, List.getElem_cons_zero, List.setIfInBounds_toArray, List.set_cons_succ, List.set_cons_zero]
      refine wpAnyH_take (i := 13) (v := .bool true) rfl (by kernel_rfl) (by kernel_rfl) (by kernel_rfl) (fun _ _ _ h => h) (.inl ⟨by rfl, fun wx _ => by go_simp⟩) trivial ?_
      simp only [Act.put, List.getElem_toArray, List.getElem_cons_succ, List.getElem_cons_zero, List.setIfInBounds_toArray, List.set_cons_succ, List.set_cons_zero]
      refine wpAnyH_take (i := 14) (v := .slice ka nk kc) rfl (by kernel_rfl) (by kernel_rfl) (by kernel_rfl) (fun _ _ _ h => h) (.inl ⟨by kernel_rfl, fun wx _ => by go_simp⟩) trivial ?_
      simp only [Act.put, List.getElem_toArray, List.getElem_cons_succ, List.getElem_cons_zero, List.setIfInBounds_toArray, List.set_cons_succ, List.set_cons_zero]
      have s1 := fun w => slice_hash w w13.heap.size
      refine wpAnyH_take (i := 16) (v := .slice (some ⟨w13.heap.size, 0, none⟩) 32 32) rfl (by kernel_rfl) (by kernel_rfl) (by kernel_rfl) (fun _ _ _ h => h) (.inl ⟨by kernel_rfl, fun wx _ => by have x1 := s1 wx; go_simp⟩) trivial ?_
      simp only [Act.put, List.getElem_toArray, List.getElem_cons_succ, List.getElem_cons_zero, List.setIfInBounds_toArray, List.set_cons_succ, List.set_cons_zero]
      refine wpAnyH_ready (rs := [15]) (by kernel_rfl) (by simp) ?_
      refine AllReadyH.cons rfl (fun K hK => ?_) AllReadyH.nil
      go_simp
      refine SECR.out.mono ?_
      rintro e w21 ⟨sp, rfl, hsp, f21⟩
      have B2 := hid (bytes_c hsp (Rd.hash (blk_frT HR9.out f21)) (hshF_by k) (hshF_by k))
      rw [decide_eq_true rfl] at B2
      have F21 := hid (F9.out.drew.trans f21)
      clear hsp f21
      go_simp
      refine hK.out _ _ trivial (fun _ => ?_)
      clear hK K
      refine wpAnyH_ready (rs := [17]) (by kernel_rfl) (by simp) ?_
      refine AllReadyH.cons rfl (fun K hK => ?_) AllReadyH.nil
      go_simp
      refine B2.out.mono ?_
      rintro e w22 ⟨rfl, h22⟩
      rw [h22]
      clear h22
      go_simp
      refine hK.out _ _ trivial (fun _ => ?_)
      clear hK K
      refine wpAnyH_take (i := 18) (v := .bool true) rfl (by kernel_rfl) (by kernel_rfl) (by kernel_rfl) (fun _ _ _ h => h) (.inl ⟨by rfl, fun wx _ => by go_simp⟩) trivial ?_
      simp only [Act.put, List.getElem_toArray, List.getElem_cons_succ, List.getElem_cons_zero, List.setIfInBounds_toArray, List.set_cons_succ, List.set_cons_zero]
      refine wpAnyH_take (i := 19) (v := .bool true) rfl (by kernel_rfl) (by kernel_rfl) (by kernel_rfl) (fun _ _ _ h => h) (.inl ⟨by rfl, fun wx _ => by go_simp⟩) trivial ?_
      simp only [Act.put, List.getElem_toArray, List.getElem_cons_succ, List.getElem_cons_zero, List.setIfInBounds_toArray, List.set_cons_succ, List.set_cons_zero]
      refine wpAnyH_done (by kernel_rfl) ?_ _
      go_wp2
      go_ret
      exact ⟨rfl, F21.out⟩
  · have F2 := hid (F1.out.trans f2)
    have HOK := hid ok
    clear f2 ok PK
    go_upto_region 7 with (go_at_call 11; refine (RP.out _ F2.out).mono ?_; rintro e w3 ⟨(⟨ok, _⟩ | ⟨ok, rfl⟩), f3⟩; (rw [HOK.out] at ok; cases ok); have F3 := hid (F2.out.trans f3); clear f3 ok RP)
    have B1 := hid (bytes_c (w := w3) (v1 := .slice none 0 0) (v2 := .slice none 0 0) (a := []) (b := []) (.inl ⟨rfl, rfl⟩) (.inl ⟨rfl, rfl⟩) (fun x hx => by cases hx) (fun x hx => by cases hx))
    rw [decide_eq_true rfl] at B1
    go_upto_region 9 with (first
      | (go_at_call 12; refine B1.out.mono ?_; rintro e w4 ⟨rfl, h4⟩; rw [h4]; clear h4 B1)
      | (go_at_call 13; refine (NB.out _ F3.out).mono ?_; rintro e w5 ⟨v5, rfl, O5, f5⟩; have F5 := hid (F3.out.trans f5); have F35 := hid f5; have R5 := hid (Rd.ownB O5); clear O5 f5 NB)
      | (go_at_call 14; refine (RN.out _ F5.out).mono ?_; rintro e w6 ⟨v6, rfl, O6, f6⟩; have F6 := hid (F5.out.trans f6); have F36 := hid (F35.out.trans f6); have R6 := hid (Rd.ownB O6); have B2 := hid (bytes_c (R5.out.fr f6) R6.out HNN.out.by HNN.out.by); rw [decide_eq_true rfl] at B2; clear O6 f6 RN R5 R6)
      | (go_at_call 12; refine B2.out.mono ?_; rintro e w7 ⟨rfl, h7⟩; rw [h7]; clear h7 B2))
    go_upto_region 13 with fail
    go_upto_region 14 with (go_at_call 15; refine (UB.out _ F6.out).mono ?_; rintro e w11 ⟨(⟨x, is, v11, hu, rfl, r11⟩ | ⟨hu, rfl⟩), f11⟩)
    · have F11 := hid (F6.out.trans f11)
      have R11 := hid r11
      have HU := hid hu
      clear f11 hu UB r11
      go_upto_region 15 with (go_at_call 16; refine (UR.out _ F11.out).mono ?_; rintro e w12 ⟨(⟨y, js, v12, hv, rfl, r12⟩ | ⟨hv, _⟩), f12⟩; rotate_left; (rw [HU.out] at hv; cases hv); (rw [HU.out] at hv; cases hv); have F12 := hid (F11.out.trans f12); have BXY0 := hid (fun (w2 : World) (g : Fr [] w12 w2) => bytes_c ((R11.out.fr f12).fr g) (r12.fr g) (unpF_by HBB.out HU.out) (unpF_by HBB.out HU.out)); rw [decide_eq_true rfl] at BXY0; obtain ⟨xa, nx, xc, rfl⟩ := Rd.sl R11.out; obtain ⟨ya, ny, yc, rfl⟩ := Rd.sl r12; clear f12 r12 UR)
      go_wp2_with fail
      refine (SM.out _ F12.out).mono ?_
      rintro e w13 ⟨rfl, f13⟩
      have F13 := hid (F12.out.trans f13)
      have G13 := hid f13
      clear f13 SM
      rename_i hK
      refine hK _ _ ?_
      refine wpList_made32T (t1 := 22) (t2 := 101) (g := hashOf k) rfl rfl rfl rfl rfl rfl (by simp [Act.eval, Act.put]) (by simp [Act.eval, Act.put]) ?_
      have HR9 : Hid ((w13.alloc (.cells (bvals 32 (hashOf k)) 36)).drew.heap[w13.heap.size]? = some (.cells (bvals 32 (hashOf k)) 36 (0, 0))) := hid (by rw [blk_drew]; exact blk_new _ _)
      have F9 : Hid (Fr [] w (w13.alloc (.cells (bvals 32 (hashOf k)) 36))) := hid (F13.out.alloc _)
      have BXY := hid (BXY0.out (w13.alloc (.cells (bvals 32 (hashOf k)) 36)).drew (G13.out.trans ((Fr.refl _ _).alloc _).drew))
      have SECR := hid (SE.out (w13.alloc (.cells (bvals 32 (hashOf k)) 36)).drew F9.out.drew)
      generalize w13.alloc (.cells (bvals 32 (hashOf k)) 36) = w9 at HR9 F9 BXY SECR ⊢
      clear hK F13 G13 BXY0 SE
      go_upto_region 16 with fail
      refine wp_region_held_drew (S := fun _ => True) (by kernel_rfl) trivial (fun _ => ?_)
      refine wpAnyH_take (i := 0) (v := .int .i64 0) rfl (by kernel_rfl) (by kernel_rfl) (by kernel_rfl) (fun _ _ _ h => h) (.inl ⟨by rfl, fun wx _ => by go_simp⟩) trivial ?_
      simp only [Act.put, List.getElem_toArray, List.getElem_cons_zero, List.setIfInBounds_toArray, List.set_cons_succ, List.set_cons_zero]
      refine wpAnyH_take (i := 1) (v := .int .i64 0) rfl (by kernel_rfl) (by kernel_rfl) (by kernel_rfl) (fun _ _ _ h => h) (.inl ⟨by rfl, fun wx _ => by go_simp⟩) trivial ?_
      simp only [Act.put, List.getElem_toArray, List.getElem_cons_succ, List.getElem_cons_zero, List.setIfInBounds_toArray, List.set_cons_succ, List.set_cons_zero]
      refine wpAnyH_take (i := 2) (v := .bool true) rfl (by kernel_rfl) (by kernel_rfl) (by kernel_rfl) (fun _ _ _ h => h) (.inl ⟨by rfl, fun wx _ => by go_simp⟩) trivial ?_
      simp only [Act.put, List.getElem_toArray, List.getElem_cons_succ, List.getElem_cons_zero, List.setIfInBounds_toArray, List.set_cons_succ, List.set_cons_zero]
      refine wpAnyH_take (i := 3) (v := .bool true) rfl (by kernel_rfl) (by kernel_rfl) (by kernel_rfl) (fun _ _ _ h => h) (.inl ⟨by rfl, fun wx _ => by go_simp⟩) trivial ?_
      simp only [Act.put, List.getElem_toArray, List.getElem_cons_succ, List.getElem_cons_zero, List.setIfInBounds_toArray, List.set_cons_succ, List.set_cons_zero]
      refine wpAnyH_take (i := 4) (v := .bool is) rfl (by kernel_rfl) (by kernel_rfl) (by kernel_rfl) (fun _ _ _ h => h) (.inl ⟨by kernel_rfl, fun wx _ => by go_simp⟩) trivial ?_
      simp only [Act.put, List.getElem_toArray, List.getElem_cons_succ, List.getElem_cons_zero, List.setIfInBounds_toArray, List.set_cons_succ, List.set_cons_zero]
      refine wpAnyH_take (i := 5) (v := .bool is) rfl (by kernel_rfl) (by kernel_rfl) (by kernel_rfl) (fun _ _ _ h => h) (.inl ⟨by kernel_rfl, fun wx _ => by go_simp⟩) trivial ?_
      simp only [Act.put, List.getElem_toArray, List.getElem_cons_succ, List.getElem_cons_zero, List.setIfInBounds_toArray, List.set_cons_succ, List.set_cons_zero]
      refine wpAnyH_take (i := 6) (v := .bool true) rfl (by kernel_rfl) (by kernel_rfl) (by kernel_rfl) (fun _ _ _ h => h) (.inl ⟨by kernel_rfl, fun wx _ => by go_simp⟩) trivial ?_
      simp only [Act.put, List.getElem_toArray, List.getElem_cons_succ, List.getElem_cons_zero, List.setIfInBounds_toArray, List.set_cons_succ, List.set_cons_zero]
      refine wpAnyH_take (i := 7) (v := .bool true) rfl (by kernel_rfl) (by kernel_rfl) (by kernel_rfl) (fun _ _ _ h => h) (.inl ⟨by rfl, fun wx _ => by go_simp⟩) trivial ?_
      simp only [Act.put, List.getElem_toArray, List.getElem_cons_succ, List.getElem_cons_zero, List.setIfInBounds_toArray, List.set_cons_succ, List.set_cons_zero]
      refine wpAnyH_take (i := 8) (v := .bool true) rfl (by kernel_rfl) (by kernel_rfl) (by kernel_rfl) (fun _ _ _ h => h) (.inl ⟨by rfl, fun wx _ => by go_simp⟩) trivial ?_
      simp only [Act.put, List.getElem_toArray, List.getElem_cons_succ, List.getElem_cons_zero, List.setIfInBounds_toArray, List.set_cons_succ, List.set_cons_zero]
      refine wpAnyH_take (i := 9) (v := .slice xa nx xc) rfl (by kernel_rfl) (by kernel_rfl) (by kernel_rfl) (fun _ _ _ h => h) (.inl ⟨by kernel_rfl, fun wx _ => by go_simp⟩) trivial ?_
      simp only [Act.put, List.getElem_toArray, List.getElem_cons_succ, List.getElem_cons_zero, List.setIfInBounds_toArray, List.set_cons_succ, List.set_cons_zero]
      refine wpAnyH_take (i := 10) (v := .slice ya ny yc) rfl (by kernel_rfl) (by kernel_rfl) (by kernel_rfl) (fun _ _ _ h => h) (.inl ⟨by kernel_rfl, fun wx _ => by go_simp⟩) trivial ?_
      simp only [Act.put, List.getElem_toArray, List.getElem_cons_succ, List.getElem_cons_zero, List.setIfInBounds_toArray, List.set_cons_succ, List.set_cons_zero]
      refine wpAnyH_ready (rs := [11]) (by kernel_rfl) (by simp) ?_
      refine AllReadyH.cons rfl (fun K hK => ?_) AllReadyH.nil
      go_simp
      refine BXY.out.mono ?_
      rintro e w20 ⟨rfl, h20⟩
      rw [h20]
      clear h20
      go_simp
      refine hK.out _ _ trivial (fun _ => ?_)
      clear hK K
      refine wpAnyH_take (i := 12) (v := .bool true) rfl (by kernel_rfl) (by kernel_rfl) (by kernel_rfl) (fun _ _ _ h => h) (.inl ⟨by rfl, fun wx _ => by go_simp⟩) trivial ?_
      simp only [Act.put, List.getElem_toArray, List.getElem_cons_succ, List.getElem_cons_zero, List.setIfInBounds_toArray, List.set_cons_succ, List.set_cons_zero]
      refine wpAnyH_take (i := 13) (v := .bool true) rfl (by kernel_rfl) (by kernel_rfl) (by kernel_rfl) (fun _ _ _ h => h) (.inl ⟨by rfl, fun wx _ => by go_simp⟩) trivial ?_
      simp only [Act.put, List.getElem_toArray, List.getElem_cons_succ, List.getElem_cons_zero, List.setIfInBounds_toArray, List.set_cons_succ, List.set_cons_zero]
      refine wpAnyH_take (i := 14) (v := .slice ka nk kc) rfl (by kernel_rfl) (by kernel_rfl) (by kernel_rfl) (fun _ _ _ h => h) (.inl ⟨by kernel_rfl, fun wx _ => by go_simp⟩) trivial ?_
      simp only [Act.put, List.getElem_toArray, List.getElem_cons_succ, List.getElem_cons_zero, List.setIfInBounds_toArray, List.set_cons_succ, List.set_cons_zero]
      have s1 := fun w => slice_hash w w13.heap.size
      refine wpAnyH_take (i := 16) (v := .slice (some ⟨w13.heap.size, 0, none⟩) 32 32) rfl (by kernel_rfl) (by kernel_rfl) (by kernel_rfl) (fun _ _ _ h => h) (.inl ⟨by kernel_rfl, fun wx _ => by have x1 := s1 wx; go_simp⟩) trivial ?_
      simp only [Act.put, List.getElem_toArray, List.getElem_cons_succ, List.getElem_cons_zero, List.setIfInBounds_toArray, List.set_cons_succ, List.set_cons_zero]
      refine wpAnyH_ready (rs := [15]) (by kernel_rfl) (by simp) ?_
      refine AllReadyH.cons rfl (fun K hK => ?_) AllReadyH.nil
      go_simp
      refine SECR.out.mono ?_
      rintro e w21 ⟨sp, rfl, hsp, f21⟩
      have B2 := hid (bytes_c hsp (Rd.hash (blk_frT HR9.out f21)) (hshF_by k) (hshF_by k))
      rw [decide_eq_true rfl] at B2
      have F21 := hid (F9.out.drew.trans f21)
      clear hsp f21
      go_simp
      refine hK.out _ _ trivial (fun _ => ?_)
      clear hK K
      refine wpAnyH_ready (rs := [17]) (by kernel_rfl) (by simp) ?_
      refine AllReadyH.cons rfl (fun K hK => ?_) AllReadyH.nil
      go_simp
      refine B2.out.mono ?_
      rintro e w22 ⟨rfl, h22⟩
      rw [h22]
      clear h22
      go_simp
      refine hK.out _ _ trivial (fun _ => ?_)
      clear hK K
      refine wpAnyH_take (i := 18) (v := .bool true) rfl (by kernel_rfl) (by kernel_rfl) (by kernel_rfl) (fun _ _ _ h => h) (.inl ⟨by rfl, fun wx _ => by go_simp⟩) trivial ?_
      simp only [Act.put, List.getElem_toArray, List.getElem_cons_succ, List.getElem_cons_zero, List.setIfInBounds_toArray, List.set_cons_succ, List.set_cons_zero]
      refine wpAnyH_take (i := 19) (v := .bool true) rfl (by kernel_rfl) (by kernel_rfl) (by kernel_rfl) (fun _ _ _ h => h) (.inl ⟨by rfl, fun wx _ => by go_simp⟩) trivial ?_
      simp only [Act.put, List.getElem_toArray, List.getElem_cons_succ, List.getElem_cons_zero, List.setIfInBounds_toArray, List.set_cons_succ, List.set_cons_zero]
      refine wpAnyH_done (by kernel_rfl) ?_ _
      go_wp2
      go_ret
      exact ⟨rfl, F21.out⟩
    · have F11 := hid (F6.out.trans f11)
      have HU := hid hu
      clear f11 hu UB
      go_upto_region 15 with (go_at_call 16; refine (UR.out _ F11.out).mono ?_; rintro e w12 ⟨(⟨y, js, v12, hv, _⟩ | ⟨hv, rfl⟩), f12⟩; (rw [HU.out] at hv; cases hv); have F12 := hid (F11.out.trans f12); have BXY0 := hid (fun (w2 : World) (_ : Fr [] w12 w2) => bytes_c (w := w2) (v1 := .slice none 0 0) (v2 := .slice none 0 0) (a := []) (b := []) (.inl ⟨rfl, rfl⟩) (.inl ⟨rfl, rfl⟩) (fun x hx => by cases hx) (fun x hx => by cases hx)); rw [decide_eq_true rfl] at BXY0; clear f12 hv UR)
      go_wp2_with fail
      refine (SM.out _ F12.out).mono ?_
      rintro e w13 ⟨rfl, f13⟩
      have F13 := hid (F12.out.trans f13)
      have G13 := hid f13
      clear f13 SM
      rename_i hK
      refine hK _ _ ?_
      refine wpList_made32T (t1 := 22) (t2 := 101) (g := hashOf k) rfl rfl rfl rfl rfl rfl (by simp [Act.eval, Act.put]) (by simp [Act.eval, Act.put]) ?_
      have HR9 : Hid ((w13.alloc (.cells (bvals 32 (hashOf k)) 36)).drew.heap[w13.heap.size]? = some (.cells (bvals 32 (hashOf k)) 36 (0, 0))) := hid (by rw [blk_drew]; exact blk_new _ _)
      have F9 : Hid (Fr [] w (w13.alloc (.cells (bvals 32 (hashOf k)) 36))) := hid (F13.out.alloc _)
      have BXY := hid (BXY0.out (w13.alloc (.cells (bvals 32 (hashOf k)) 36)).drew (G13.out.trans ((Fr.refl _ _).alloc _).drew))
      have SECR := hid (SE.out (w13.alloc (.cells (bvals 32 (hashOf k)) 36)).drew F9.out.drew)
      generalize w13.alloc (.cells (bvals 32 (hashOf k)) 36) = w9 at HR9 F9 BXY SECR ⊢
      clear hK F13 G13 BXY0 SE
      go_upto_region 16 with fail
      refine wp_region_held_drew (S := fun _ => True) (by kernel_rfl) trivial (fun _ => ?_)
      refine wpAnyH_take (i := 0) (v := .int .i64 143) rfl (by kernel_rfl) (by kernel_rfl) (by kernel_rfl) (fun _ _ _ h => h) (.inl ⟨by rfl, fun wx _ => by go_simp⟩) trivial ?_
      simp only [Act.put, List.getElem_toArray, List.getElem_cons_zero, List.setIfInBounds_toArray, List.set_cons_succ, List.set_cons_zero]
      refine wpAnyH_take (i := 1) (v := .int .i64 143) rfl (by kernel_rfl) (by kernel_rfl) (by kernel_rfl) (fun _ _ _ h => h) (.inl ⟨by rfl, fun wx _ => by go_simp⟩) trivial ?_
      simp only [Act.put, List.getElem_toArray, List.getElem_cons_succ, List.getElem_cons_zero, List.setIfInBounds_toArray, List.set_cons_succ, List.set_cons_zero]
      refine wpAnyH_take (i := 2) (v := .bool true) rfl (by kernel_rfl) (by kernel_rfl) (by kernel_rfl) (fun _ _ _ h => h) (.inl ⟨by rfl, fun wx _ => by go_simp⟩) trivial ?_
      simp only [Act.put, List.getElem_toArray, List.getElem_cons_succ, List.getElem_cons_zero, List.setIfInBounds_toArray, List.set_cons_succ, List.set_cons_zero]
      refine wpAnyH_take (i := 3) (v := .bool true) rfl (by kernel_rfl) (by kernel_rfl) (by kernel_rfl) (fun _ _ _ h => h) (.inl ⟨by rfl, fun wx _ => by go_simp⟩) trivial ?_
      simp only [Act.put, List.getElem_toArray, List.getElem_cons_succ, List.getElem_cons_zero, List.setIfInBounds_toArray, List.set_cons_succ, List.set_cons_zero]
      refine wpAnyH_take (i := 4) (v := .bool false) rfl (by kernel_rfl) (by kernel_rfl) (by kernel_rfl) (fun _ _ _ h => h) (.inl ⟨by kernel_rfl, fun wx _ => by go_simp⟩) trivial ?_
      simp only [Act.put, List.getElem_toArray, List.getElem_cons_succ, List.getElem_cons_zero, List.setIfInBounds_toArray, List.set_cons_succ, List.set_cons_zero]
      refine wpAnyH_take (i := 5) (v := .bool false) rfl (by kernel_rfl) (by kernel_rfl) (by kernel_rfl) (fun _ _ _ h => h) (.inl ⟨by kernel_rfl, fun wx _ => by go_simp⟩) trivial ?_
      simp only [Act.put, List.getElem_toArray, List.getElem_cons_succ, List.getElem_cons_zero, List.setIfInBounds_toArray, List.set_cons_succ, List.set_cons_zero]
      refine wpAnyH_take (i := 6) (v := .bool true) rfl (by kernel_rfl) (by kernel_rfl) (by kernel_rfl) (fun _ _ _ h => h) (.inl ⟨by kernel_rfl, fun wx _ => by go_simp⟩) trivial ?_
      simp only [Act.put, List.getElem_toArray, List.getElem_cons_succ, List.getElem_cons_zero, List.setIfInBounds_toArray, List.set_cons_succ, List.set_cons_zero]
      refine wpAnyH_take (i := 7) (v := .bool true) rfl (by kernel_rfl) (by kernel_rfl) (by kernel_rfl) (fun _ _ _ h => h) (.inl ⟨by rfl, fun wx _ => by go_simp⟩) trivial ?_
      simp only [Act.put, List.getElem_toArray, List.getElem_cons_succ, List.getElem_cons_zero, List.setIfInBounds_toArray, List.set_cons_succ, List.set_cons_zero]
      refine wpAnyH_take (i := 8) (v := .bool true) rfl (by kernel_rfl) (by kernel_rfl) (by kernel_rfl) (fun _ _ _ h => h) (.inl ⟨by rfl, fun wx _ => by go_simp⟩) trivial ?_
      simp only [Act.put, List.getElem_toArray, List.getElem_cons_succ, List.getElem_cons_zero, List.setIfInBounds_toArray, List.set_cons_succ, List.set_cons_zero]
      refine wpAnyH_take (i := 9) (v := .slice none 0 0) rfl (by kernel_rfl) (by kernel_rfl) (by kernel_rfl) (fun _ _ _ h => h) (.inl ⟨by kernel_rfl, fun wx _ => by go_simp⟩) trivial ?_
      simp only [Act.put, List.getElem_toArray, List.getElem_cons_succ, List.getElem_cons_zero, List.setIfInBounds_toArray, List.set_cons_succ, List.set_cons_zero]
      refine wpAnyH_take (i := 10) (v := .slice none 0 0) rfl (by kernel_rfl) (by kernel_rfl) (by kernel_rfl) (fun _ _ _ h => h) (.inl ⟨by kernel_rfl, fun wx _ => by go_simp⟩) trivial ?_
      simp only [Act.put, List.getElem_toArray, List.getElem_cons_succ, List.getElem_cons_zero, List.setIfInBounds_toArray, List.set_cons_succ, List.set_cons_zero]
      refine wpAnyH_ready (rs := [11]) (by kernel_rfl) (by simp) ?_
      refine AllReadyH.cons rfl (fun K hK => ?_) AllReadyH.nil
      go_simp
      refine BXY.out.mono ?_
      rintro e w20 ⟨rfl, h20⟩
      rw [h20]
      clear h20
      go_simp
      refine hK.out _ _ trivial (fun _ => ?_)
      clear hK K
      refine wpAnyH_take (i := 12) (v := .bool true) rfl (by kernel_rfl) (by kernel_rfl) (by kernel_rfl) (fun _ _ _ h => h) (.inl ⟨by rfl, fun wx _ => by go_simp⟩) trivial ?_
      simp only [Act.put, List.getElem_toArray, List.getElem_cons_succ, List.getElem_cons_zero, List.setIfInBounds_toArray, List.set_cons_succ, List.set_cons_zero]
      refine wpAnyH_take (i := 13) (v := .bool true) rfl (by kernel_rfl) (by kernel_rfl) (by kernel_rfl) (fun _ _ _ h => h) (.inl ⟨by rfl, fun wx _ => by go_simp⟩) trivial ?_
      simp only [Act.put, List.getElem_toArray, List.getElem_cons_succ, List.getElem_cons_zero, List.setIfInBounds_toArray, List.set_cons_succ, List.set_cons_zero]
      refine wpAnyH_take (i := 14) (v := .slice ka nk kc) rfl (by kernel_rfl) (by kernel_rfl) (by kernel_rfl) (fun _ _ _ h => h) (.inl ⟨by kernel_rfl, fun wx _ => by go_simp⟩) trivial ?_
      simp only [Act.put, List.getElem_toArray, List.getElem_cons_succ, List.getElem_cons_zero, List.setIfInBounds_toArray, List.set_cons_succ, List.set_cons_zero]
      have s1 := fun w => slice_hash w w13.heap.size
      refine wpAnyH_take (i := 16) (v := .slice (some ⟨w13.heap.size, 0, none⟩) 32 32) rfl (by kernel_rfl) (by kernel_rfl) (by kernel_rfl) (fun _ _ _ h => h) (.inl ⟨by kernel_rfl, fun wx _ => by have x1 := s1 wx; go_simp⟩) trivial ?_
      simp only [Act.put, List.getElem_toArray, List.getElem_cons_succ, List.getElem_cons_zero, List.setIfInBounds_toArray, List.set_cons_succ, List.set_cons_zero]
      refine wpAnyH_ready (rs := [15]) (by kernel_rfl) (by simp) ?_
      refine AllReadyH.cons rfl (fun K hK => ?_) AllReadyH.nil
      go_simp
      refine SECR.out.mono ?_
      rintro e w21 ⟨sp, rfl, hsp, f21⟩
      have B2 := hid (bytes_c hsp (Rd.hash (blk_frT HR9.out f21)) (hshF_by k) (hshF_by k))
      rw [decide_eq_true rfl] at B2
      have F21 := hid (F9.out.drew.trans f21)
      clear hsp f21
      go_simp
      refine hK.out _ _ trivial (fun _ => ?_)
      clear hK K
      refine wpAnyH_ready (rs := [17]) (by kernel_rfl) (by simp) ?_
      refine AllReadyH.cons rfl (fun K hK => ?_) AllReadyH.nil
      go_simp
      refine B2.out.mono ?_
      rintro e w22 ⟨rfl, h22⟩
      rw [h22]
      clear h22
      go_simp
      refine hK.out _ _ trivial (fun _ => ?_)
      clear hK K
      refine wpAnyH_take (i := 18) (v := .bool true) rfl (by kernel_rfl) (by kernel_rfl) (by kernel_rfl) (fun _ _ _ h => h) (.inl ⟨by rfl, fun wx _ => by go_simp⟩) trivial ?_
      simp only [Act.put, List.getElem_toArray, List.getElem_cons_succ, List.getElem_cons_zero, List.setIfInBounds_toArray, List.set_cons_succ, List.set_cons_zero]
      refine wpAnyH_take (i := 19) (v := .bool true) rfl (by kernel_rfl) (by kernel_rfl) (by kernel_rfl) (fun _ _ _ h => h) (.inl ⟨by rfl, fun wx _ => by go_simp⟩) trivial ?_
      simp only [Act.put, List.getElem_toArray, List.getElem_cons_succ, List.getElem_cons_zero, List.setIfInBounds_toArray, List.set_cons_succ, List.set_cons_zero]
      refine wpAnyH_done (by kernel_rfl) ?_ _
      go_wp2
      go_ret
      exact ⟨rfl, F21.out⟩
end Go.Proofs.YtdcocgjlfhicaaaDoor
