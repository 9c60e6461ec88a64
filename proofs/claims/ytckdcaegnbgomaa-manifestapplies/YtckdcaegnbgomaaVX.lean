/-
  The document's own: user keys, tables that overlap.
-/
import Derived.Test.YtckdcaegnbgomaaJ36
import Derived.Test.YtckdcaegnbgomaaJ27
import Derived.Deep.RegionHeld
namespace Go.Proofs.Ytckdcaegnbgomaa
open Go.ChangeShapes Go.WideShapes Go.ChangeAt Go.RowKit

/-- Do two tables overlap? -/
def overF (f g : Fl) : Bool := decide (cmpN (userL f.least) (userL g.most) ≤ 0) && decide (cmpN (userL g.least) (userL f.most) ≤ 0)
theorem ruser_c (w : World) {q off n c : Nat} (h8 : 8 ≤ n) (hc : n ≤ c) (hn : n ≤ 140737488355328) :
    Calls Try.prog 60 #[.slice (some ⟨q, off, none⟩) n c] w fun r w' => r = .returned (.slice (some ⟨q, off, none⟩) (n - 8) c) ∧ w' = w := by
  have e1 : ((n : Int) - 8).toNat = n - 8 := by omega
  have e2 : IntKind.i64.wrap ((n : Int) - 8) = (n : Int) - 8 := by rw [IntKind.wrap_i64]; omega
  have e3 : ¬ (n : Int) - 8 < 0 := by omega
  have e4 : ¬ (c : Int) < (n : Int) - 8 := by omega
  have e5 : (n : Int) - 8 ≤ (c : Int) := by omega
  go_enter Try.func60, Try.ntmps60
  go_wp2
  go_ret
  exact ⟨rfl, rfl⟩
set_option maxRecDepth 20000 in
set_option maxHeartbeats 3200000 in
theorem rover_c (w : World) {f g : Fl} {la ma la' ma' : Option Addr} {lc mc lc' mc' : Nat} (hf : FRd w f la lc ma mc) (hg : FRd w g la' lc' ma' mc') (okf : okF f = true) (okg : okF g = true) :
    Calls Try.prog 35 #[.agg #[.int .i64 f.num, .int .i64 f.size, .slice la f.least.length lc, .slice ma f.most.length mc], .agg #[.int .i64 g.num, .int .i64 g.size, .slice la' g.least.length lc', .slice ma' g.most.length mc']] w fun r w' => r = .returned (.bool (overF f g)) ∧ Fr [] w w' := by
  obtain ⟨kfl, kfm⟩ := okF_keys okf
  obtain ⟨kgl, kgm⟩ := okF_keys okg
  have k1 := isK_len kfl
  have k2 := isK_len kfm
  have k3 := isK_len kgl
  have k4 := isK_len kgm
  obtain ⟨fl, flo, flc, e1, c1⟩ := hf.rl.place (by omega)
  obtain ⟨fm, fmo, fmc, e2, c2⟩ := hf.rm.place (by omega)
  obtain ⟨gl, glo, glc, e3, c3⟩ := hg.rl.place (by omega)
  obtain ⟨gm, gmo, gmc, e4, c4⟩ := hg.rm.place (by omega)
  rw [e1, e2, e3, e4]
  have r1 := hf.rl
  have r2 := hf.rm
  have r3 := hg.rl
  have r4 := hg.rm
  rw [e1] at r1
  rw [e2] at r2
  rw [e3] at r3
  rw [e4] at r4
  have u1 := r1.front (q := f.least.length - 8) (by omega)
  have u2 := r2.front (q := f.most.length - 8) (by omega)
  have u3 := r3.front (q := g.least.length - 8) (by omega)
  have u4 := r4.front (q := g.most.length - 8) (by omega)
  have B1 : Hid (∀ W, Fr [] w W → Calls Try.prog 56 #[.slice (some ⟨fl, flo, none⟩) (f.least.length - 8) flc, .slice (some ⟨gm, gmo, none⟩) (g.most.length - 8) gmc] W fun r w' => r = .returned (.int .i64 (cmpN (userL f.least) (userL g.most))) ∧ Fr [] W w') := hid (fun W h => refbytes_c (u1.fr h) (u4.fr h) (hf.bl.take _) (hg.bm.take _) (by unfold userL; rw [List.length_take]; omega) (by unfold userL; rw [List.length_take]; omega))
  have B2 : Hid (∀ W, Fr [] w W → Calls Try.prog 56 #[.slice (some ⟨gl, glo, none⟩) (g.least.length - 8) glc, .slice (some ⟨fm, fmo, none⟩) (f.most.length - 8) fmc] W fun r w' => r = .returned (.int .i64 (cmpN (userL g.least) (userL f.most))) ∧ Fr [] W w') := hid (fun W h => refbytes_c (u3.fr h) (u2.fr h) (hg.bl.take _) (hf.bm.take _) (by unfold userL; rw [List.length_take]; omega) (by unfold userL; rw [List.length_take]; omega))
  obtain ⟨lf, hlf⟩ : ∃ x, x = f.least.length := ⟨_, rfl⟩
  obtain ⟨mf, hmf⟩ : ∃ x, x = f.most.length := ⟨_, rfl⟩
  obtain ⟨lg, hlg⟩ : ∃ x, x = g.least.length := ⟨_, rfl⟩
  obtain ⟨mg, hmg⟩ : ∃ x, x = g.most.length := ⟨_, rfl⟩
  rw [← hlf, ← hmg] at B1
  rw [← hmf, ← hlg] at B2
  rw [← hlf, ← hmf, ← hlg, ← hmg]
  have U1 : Hid (∀ W, _) := hid (fun W => ruser_c W (q := fl) (off := flo) (n := lf) (c := flc) (by omega) (by omega) (by omega))
  have U2 : Hid (∀ W, _) := hid (fun W => ruser_c W (q := fm) (off := fmo) (n := mf) (c := fmc) (by omega) (by omega) (by omega))
  have U3 : Hid (∀ W, _) := hid (fun W => ruser_c W (q := gl) (off := glo) (n := lg) (c := glc) (by omega) (by omega) (by omega))
  have U4 : Hid (∀ W, _) := hid (fun W => ruser_c W (q := gm) (off := gmo) (n := mg) (c := gmc) (by omega) (by omega) (by omega))
  obtain ⟨W0, hW0⟩ : ∃ W0, W0 = (w.alloc (.cells #[.int .i64 f.num, .int .i64 f.size, .slice (some ⟨fl, flo, none⟩) lf flc, .slice (some ⟨fm, fmo, none⟩) mf fmc] 55)).alloc (.cells #[.int .i64 g.num, .int .i64 g.size, .slice (some ⟨gl, glo, none⟩) lg glc, .slice (some ⟨gm, gmo, none⟩) mg gmc] 55) := ⟨_, rfl⟩
  have F0 : Hid (Fr [] w W0) := hid (by rw [hW0]; exact ((Fr.refl _ _).alloc _).alloc _)
  have N0 : Hid (W0.heap[w.heap.size]? = some (.cells #[.int .i64 f.num, .int .i64 f.size, .slice (some ⟨fl, flo, none⟩) lf flc, .slice (some ⟨fm, fmo, none⟩) mf fmc] 55 (0, 0))) := hid (by rw [hW0, blk_old _ _ (by simp)]; exact blk_new _ _)
  have N1 : Hid (W0.heap[w.heap.size + 1]? = some (.cells #[.int .i64 g.num, .int .i64 g.size, .slice (some ⟨gl, glo, none⟩) lg glc, .slice (some ⟨gm, gmo, none⟩) mg gmc] 55 (0, 0))) := hid (by rw [hW0]; exact new_at _ _ (by simp))
  have SK : Hid (∀ W', Fr [] W0 W' → (W'.cell? ⟨w.heap.size, 0, none⟩ = some (.int .i64 f.num) ∧ W'.cell? ⟨w.heap.size, 1, none⟩ = some (.int .i64 f.size) ∧ W'.cell? ⟨w.heap.size, 2, none⟩ = some (.slice (some ⟨fl, flo, none⟩) lf flc) ∧ W'.cell? ⟨w.heap.size, 3, none⟩ = some (.slice (some ⟨fm, fmo, none⟩) mf fmc)) ∧ W'.cell? ⟨w.heap.size + 1, 0, none⟩ = some (.int .i64 g.num) ∧ W'.cell? ⟨w.heap.size + 1, 1, none⟩ = some (.int .i64 g.size) ∧ W'.cell? ⟨w.heap.size + 1, 2, none⟩ = some (.slice (some ⟨gl, glo, none⟩) lg glc) ∧ W'.cell? ⟨w.heap.size + 1, 3, none⟩ = some (.slice (some ⟨gm, gmo, none⟩) mg gmc)) := hid (fun W' h => ⟨fl_cells (h.at N0.out (by simp)), fl_cells (h.at N1.out (by simp))⟩)
  unfold overF
  generalize cmpN (userL f.least) (userL g.most) = x1 at *
  generalize cmpN (userL g.least) (userL f.most) = x2 at *
  obtain ⟨R, hR⟩ : ∃ R, R = (decide (x1 ≤ 0) && decide (x2 ≤ 0)) := ⟨_, rfl⟩
  rw [← hR]
  have HR := hid hR
  clear hR hf hg okf okg kfl kfm kgl kgm k1 k2 k3 k4 e1 e2 e3 e4 r1 r2 r3 r4 u1 u2 u3 u4 c1 c2 c3 c4 hlf hmf hlg hmg
  go_enter Try.func35, Try.ntmps35
  go_upto_region 1 with fail
  rw [← hW0]
  clear hW0
  refine wp_region_held_drew (S := fun w' => Fr [] W0 w') (by kernel_rfl) (Fr.refl [] W0).drew (fun hS => ?_)
  refine wpAnyH_take (i := 0) (v := .pointer (some ⟨w.heap.size, 2, none⟩)) rfl (by kernel_rfl) (by kernel_rfl) (by kernel_rfl) (fun _ _ _ h => h) (.inl ⟨by rfl, fun wx _ => by go_simp⟩) hS ?_
  simp only [Act.put]
  refine wpAnyH_take (i := 1) (v := .slice (some ⟨fl, flo, none⟩) lf flc) rfl (by kernel_rfl) (by kernel_rfl) (by kernel_rfl) (fun _ _ _ h => h) (.inl ⟨by rfl, fun wx hX => by obtain ⟨⟨s0, s1, s2, s3⟩, s4, s5, s6, s7⟩ := SK.out wx hX; go_simp⟩) hS ?_
  simp only [Act.put]
  refine wpAnyH_take (i := 3) (v := .pointer (some ⟨w.heap.size + 1, 3, none⟩)) rfl (by kernel_rfl) (by kernel_rfl) (by kernel_rfl) (fun _ _ _ h => h) (.inl ⟨by rfl, fun wx _ => by go_simp⟩) hS ?_
  simp only [Act.put]
  refine wpAnyH_take (i := 4) (v := .slice (some ⟨gm, gmo, none⟩) mg gmc) rfl (by kernel_rfl) (by kernel_rfl) (by kernel_rfl) (fun _ _ _ h => h) (.inl ⟨by rfl, fun wx hX => by obtain ⟨⟨s0, s1, s2, s3⟩, s4, s5, s6, s7⟩ := SK.out wx hX; go_simp⟩) hS ?_
  simp only [Act.put]
  clear hS
  refine wpAnyH_ready (rs := [2]) (by kernel_rfl) (by simp) ?_
  refine AllReadyH.cons rfl (fun K hK => ?_) AllReadyH.nil
  go_simp
  refine (U1.out _).mono ?_
  rintro r w2 ⟨rfl, h2⟩
  rw [h2]
  refine hK.out _ _ (Fr.refl [] W0).drew (fun _ => ?_)
  clear hK K h2
  refine wpAnyH_ready (rs := [5]) (by kernel_rfl) (by simp) ?_
  refine AllReadyH.cons rfl (fun K hK => ?_) AllReadyH.nil
  go_simp
  refine (U4.out _).mono ?_
  rintro r w3 ⟨rfl, h3⟩
  rw [h3]
  refine hK.out _ _ (Fr.refl [] W0).drew (fun _ => ?_)
  clear hK K h3
  refine wpAnyH_ready (rs := [6]) (by kernel_rfl) (by simp) ?_
  refine AllReadyH.cons rfl (fun K hK => ?_) AllReadyH.nil
  go_simp
  refine (B1.out _ (F0.out.trans (Fr.refl [] W0).drew)).mono ?_
  rintro r w4 ⟨rfl, f4⟩
  have F4 := hid ((Fr.refl [] W0).drew.trans f4)
  refine hK.out _ _ F4.out (fun hS => ?_)
  clear hK K f4
  by_cases hx1 : x1 ≤ 0
  · have hd : decide (x1 ≤ 0) = true := decide_eq_true hx1
    rw [hd, Bool.true_and] at HR
    refine wpAnyH_take (i := 7) (v := .bool true) rfl (by kernel_rfl) (by kernel_rfl) (by kernel_rfl) (fun _ _ _ h => h) (.inl ⟨by kernel_rfl, fun wx _ => by go_simp⟩) hS ?_
    simp only [Act.put, List.getElem_toArray, List.getElem_cons_succ, List.getElem_cons_zero, List.set_cons_succ, List.set_cons_zero, List.setIfInBounds_toArray]
    refine wpAnyH_take (i := 8) (v := .bool true) rfl (by kernel_rfl) (by kernel_rfl) (by kernel_rfl) (fun _ _ _ h => h) (.inl ⟨by kernel_rfl, fun wx _ => by go_simp⟩) hS ?_
    simp only [Act.put, List.getElem_toArray, List.getElem_cons_succ, List.getElem_cons_zero, List.set_cons_succ, List.set_cons_zero, List.setIfInBounds_toArray]
    refine wpAnyH_take (i := 9) (v := .pointer (some ⟨w.heap.size + 1, 2, none⟩)) rfl (by kernel_rfl) (by kernel_rfl) (by kernel_rfl) (fun _ _ _ h => h) (.inl ⟨by kernel_rfl, fun wx _ => by go_simp⟩) hS ?_
    simp only [Act.put, List.getElem_toArray, List.getElem_cons_succ, List.getElem_cons_zero, List.set_cons_succ, List.set_cons_zero, List.setIfInBounds_toArray]
    refine wpAnyH_take (i := 10) (v := .slice (some ⟨gl, glo, none⟩) lg glc) rfl (by kernel_rfl) (by kernel_rfl) (by kernel_rfl) (fun _ _ _ h => h) (.inl ⟨by kernel_rfl, fun wx hX => by obtain ⟨⟨s0, s1, s2, s3⟩, s4, s5, s6, s7⟩ := SK.out wx hX; go_simp⟩) hS ?_
    simp only [Act.put, List.getElem_toArray, List.getElem_cons_succ, List.getElem_cons_zero, List.set_cons_succ, List.set_cons_zero, List.setIfInBounds_toArray]
    refine wpAnyH_take (i := 12) (v := .pointer (some ⟨w.heap.size, 3, none⟩)) rfl (by kernel_rfl) (by kernel_rfl) (by kernel_rfl) (fun _ _ _ h => h) (.inl ⟨by kernel_rfl, fun wx _ => by go_simp⟩) hS ?_
    simp only [Act.put, List.getElem_toArray, List.getElem_cons_succ, List.getElem_cons_zero, List.set_cons_succ, List.set_cons_zero, List.setIfInBounds_toArray]
    refine wpAnyH_take (i := 13) (v := .slice (some ⟨fm, fmo, none⟩) mf fmc) rfl (by kernel_rfl) (by kernel_rfl) (by kernel_rfl) (fun _ _ _ h => h) (.inl ⟨by kernel_rfl, fun wx hX => by obtain ⟨⟨s0, s1, s2, s3⟩, s4, s5, s6, s7⟩ := SK.out wx hX; go_simp⟩) hS ?_
    simp only [Act.put, List.getElem_toArray, List.getElem_cons_succ, List.getElem_cons_zero, List.set_cons_succ, List.set_cons_zero, List.setIfInBounds_toArray]
    clear hS
    refine wpAnyH_ready (rs := [11]) (by kernel_rfl) (by simp) ?_
    refine AllReadyH.cons rfl (fun K hK => ?_) AllReadyH.nil
    go_simp
    refine (U3.out _).mono ?_
    rintro r w5 ⟨rfl, h5⟩
    rw [h5]
    refine hK.out _ _ F4.out (fun _ => ?_)
    clear hK K h5
    refine wpAnyH_ready (rs := [14]) (by kernel_rfl) (by simp) ?_
    refine AllReadyH.cons rfl (fun K hK => ?_) AllReadyH.nil
    go_simp
    refine (U2.out _).mono ?_
    rintro r w6 ⟨rfl, h6⟩
    rw [h6]
    refine hK.out _ _ F4.out (fun _ => ?_)
    clear hK K h6
    refine wpAnyH_ready (rs := [15]) (by kernel_rfl) (by simp) ?_
    refine AllReadyH.cons rfl (fun K hK => ?_) AllReadyH.nil
    go_simp
    refine (B2.out _ (F0.out.trans F4.out)).mono ?_
    rintro r w7 ⟨rfl, f7⟩
    have F7 := hid (F4.out.trans f7)
    refine hK.out _ _ F7.out (fun hS => ?_)
    clear hK K f7
    refine wpAnyH_take (i := 16) (v := .bool (decide (x2 ≤ 0))) rfl (by kernel_rfl) (by kernel_rfl) (by kernel_rfl) (fun _ _ _ h => h) (.inl ⟨by kernel_rfl, fun wx _ => by go_simp⟩) hS ?_
    simp only [Act.put, List.getElem_toArray, List.getElem_cons_succ, List.getElem_cons_zero, List.set_cons_succ, List.set_cons_zero, List.setIfInBounds_toArray]
    refine wpAnyH_take (i := 17) (v := .bool (decide (x2 ≤ 0))) rfl (by kernel_rfl) (by kernel_rfl) (by kernel_rfl) (fun _ _ _ h => h) (.inl ⟨by kernel_rfl, fun wx _ => by go_simp⟩) hS ?_
    simp only [Act.put, List.getElem_toArray, List.getElem_cons_succ, List.getElem_cons_zero, List.set_cons_succ, List.set_cons_zero, List.setIfInBounds_toArray]
    refine wpAnyH_take (i := 18) (v := .bool (decide (x2 ≤ 0))) rfl (by kernel_rfl) (by kernel_rfl) (by kernel_rfl) (fun _ _ _ h => h) (.inl ⟨by kernel_rfl, fun wx _ => by go_simp⟩) hS ?_
    simp only [Act.put, List.getElem_toArray, List.getElem_cons_succ, List.getElem_cons_zero, List.set_cons_succ, List.set_cons_zero, List.setIfInBounds_toArray]
    clear hS
    refine wpAnyH_done (by kernel_rfl) ?_ _
    go_wp2
    go_ret
    exact ⟨ret_bool HR.out.symm, F0.out.trans F7.out⟩
  · have hd : decide (x1 ≤ 0) = false := decide_eq_false hx1
    have hx1' : 0 < x1 := by omega
    rw [hd, Bool.false_and] at HR
    refine wpAnyH_take (i := 7) (v := .bool false) rfl (by kernel_rfl) (by kernel_rfl) (by kernel_rfl) (fun _ _ _ h => h) (.inl ⟨by kernel_rfl, fun wx _ => by go_simp⟩) hS ?_
    simp only [Act.put, List.getElem_toArray, List.getElem_cons_succ, List.getElem_cons_zero, List.set_cons_succ, List.set_cons_zero, List.setIfInBounds_toArray]
    refine wpAnyH_take (i := 8) (v := .bool false) rfl (by kernel_rfl) (by kernel_rfl) (by kernel_rfl) (fun _ _ _ h => h) (.inl ⟨by kernel_rfl, fun wx _ => by go_simp⟩) hS ?_
    simp only [Act.put, List.getElem_toArray, List.getElem_cons_succ, List.getElem_cons_zero, List.set_cons_succ, List.set_cons_zero, List.setIfInBounds_toArray]
    refine wpAnyH_take (i := 9) (v := undef) rfl (by kernel_rfl) (by kernel_rfl) (by kernel_rfl) (fun _ _ _ h => h) (.inr ⟨by kernel_rfl, rfl⟩) hS ?_
    simp only [Act.put, List.getElem_toArray, List.getElem_cons_succ, List.getElem_cons_zero, List.set_cons_succ, List.set_cons_zero, List.setIfInBounds_toArray]
    refine wpAnyH_take (i := 10) (v := undef) rfl (by kernel_rfl) (by kernel_rfl) (by kernel_rfl) (fun _ _ _ h => h) (.inr ⟨by kernel_rfl, rfl⟩) hS ?_
    simp only [Act.put, List.getElem_toArray, List.getElem_cons_succ, List.getElem_cons_zero, List.set_cons_succ, List.set_cons_zero, List.setIfInBounds_toArray]
    refine wpAnyH_take (i := 11) (v := undef) rfl (by kernel_rfl) (by kernel_rfl) (by kernel_rfl) (fun _ _ _ h => h) (.inr ⟨by kernel_rfl, rfl⟩) hS ?_
    simp only [Act.put, List.getElem_toArray, List.getElem_cons_succ, List.getElem_cons_zero, List.set_cons_succ, List.set_cons_zero, List.setIfInBounds_toArray]
    refine wpAnyH_take (i := 12) (v := undef) rfl (by kernel_rfl) (by kernel_rfl) (by kernel_rfl) (fun _ _ _ h => h) (.inr ⟨by kernel_rfl, rfl⟩) hS ?_
    simp only [Act.put, List.getElem_toArray, List.getElem_cons_succ, List.getElem_cons_zero, List.set_cons_succ, List.set_cons_zero, List.setIfInBounds_toArray]
    refine wpAnyH_take (i := 13) (v := undef) rfl (by kernel_rfl) (by kernel_rfl) (by kernel_rfl) (fun _ _ _ h => h) (.inr ⟨by kernel_rfl, rfl⟩) hS ?_
    simp only [Act.put, List.getElem_toArray, List.getElem_cons_succ, List.getElem_cons_zero, List.set_cons_succ, List.set_cons_zero, List.setIfInBounds_toArray]
    refine wpAnyH_take (i := 14) (v := undef) rfl (by kernel_rfl) (by kernel_rfl) (by kernel_rfl) (fun _ _ _ h => h) (.inr ⟨by kernel_rfl, rfl⟩) hS ?_
    simp only [Act.put, List.getElem_toArray, List.getElem_cons_succ, List.getElem_cons_zero, List.set_cons_succ, List.set_cons_zero, List.setIfInBounds_toArray]
    refine wpAnyH_take (i := 15) (v := undef) rfl (by kernel_rfl) (by kernel_rfl) (by kernel_rfl) (fun _ _ _ h => h) (.inr ⟨by kernel_rfl, rfl⟩) hS ?_
    simp only [Act.put, List.getElem_toArray, List.getElem_cons_succ, List.getElem_cons_zero, List.set_cons_succ, List.set_cons_zero, List.setIfInBounds_toArray]
    refine wpAnyH_take (i := 16) (v := undef) rfl (by kernel_rfl) (by kernel_rfl) (by kernel_rfl) (fun _ _ _ h => h) (.inr ⟨by kernel_rfl, rfl⟩) hS ?_
    simp only [Act.put, List.getElem_toArray, List.getElem_cons_succ, List.getElem_cons_zero, List.set_cons_succ, List.set_cons_zero, List.setIfInBounds_toArray]
    refine wpAnyH_take (i := 17) (v := .bool false) rfl (by kernel_rfl) (by kernel_rfl) (by kernel_rfl) (fun _ _ _ h => h) (.inl ⟨by kernel_rfl, fun wx _ => by go_simp⟩) hS ?_
    simp only [Act.put, List.getElem_toArray, List.getElem_cons_succ, List.getElem_cons_zero, List.set_cons_succ, List.set_cons_zero, List.setIfInBounds_toArray]
    refine wpAnyH_take (i := 18) (v := .bool false) rfl (by kernel_rfl) (by kernel_rfl) (by kernel_rfl) (fun _ _ _ h => h) (.inl ⟨by kernel_rfl, fun wx _ => by go_simp⟩) hS ?_
    simp only [Act.put, List.getElem_toArray, List.getElem_cons_succ, List.getElem_cons_zero, List.set_cons_succ, List.set_cons_zero, List.setIfInBounds_toArray]
    clear hS
    refine wpAnyH_done (by kernel_rfl) ?_ _
    go_wp2
    go_ret
    exact ⟨ret_bool HR.out.symm, F0.out.trans F4.out⟩
end Go.Proofs.Ytckdcaegnbgomaa
