/-
  The statements' own comparison of edits.
-/
import Derived.Test.YtckdcaegnbgomaaJ26
import Derived.Test.YtckdcaegnbgomaaEM
import Derived.Deep.RegionHeld
namespace Go.Proofs.Ytckdcaegnbgomaa
open Go.ChangeShapes Go.WideShapes Go.ChangeAt Go.RowKit

set_option maxRecDepth 20000 in
set_option maxHeartbeats 1600000 in
theorem fileSame_c (w : World) {f : Fl} {la ma la' ma' : Option Addr} {lc mc lc' mc' : Nat} (h1 : FRd w f la lc ma mc) (h2 : FRd w f la' lc' ma' mc') :
    Calls Try.prog 36 #[.agg #[.int .i64 f.num, .int .i64 f.size, .slice la f.least.length lc, .slice ma f.most.length mc], .agg #[.int .i64 f.num, .int .i64 f.size, .slice la' f.least.length lc', .slice ma' f.most.length mc']] w fun r w' => r = .returned (.bool true) ∧ Fr [] w w' := by
  obtain ⟨W, hW⟩ : ∃ W, W = (w.alloc (.cells #[.int .i64 f.num, .int .i64 f.size, .slice la f.least.length lc, .slice ma f.most.length mc] 55)).alloc (.cells #[.int .i64 f.num, .int .i64 f.size, .slice la' f.least.length lc', .slice ma' f.most.length mc'] 55) := ⟨_, rfl⟩
  have F : Hid (Fr [] w W) := hid (by rw [hW]; exact ((Fr.refl _ w).alloc _).alloc _)
  have A : Hid (W.heap[w.heap.size]? = some (.cells #[.int .i64 f.num, .int .i64 f.size, .slice la f.least.length lc, .slice ma f.most.length mc] 55 (0, 0))) := hid (by rw [hW, blk_old _ _ (by simp)]; exact blk_new _ _)
  have B : Hid (W.heap[w.heap.size + 1]? = some (.cells #[.int .i64 f.num, .int .i64 f.size, .slice la' f.least.length lc', .slice ma' f.most.length mc'] 55 (0, 0))) := hid (by rw [hW]; exact new_at _ _ (by simp))
  have a0 := blk_cell A.out 0
  have a1 := blk_cell A.out 1
  have a2 := blk_cell A.out 2
  have a3 := blk_cell A.out 3
  have b0 := blk_cell B.out 0
  have b1 := blk_cell B.out 1
  have b2 := blk_cell B.out 2
  have b3 := blk_cell B.out 3
  simp at a0 a1 a2 a3 b0 b1 b2 b3
  have e1 := run_conv (h1.rl.fr F.out)
  have e2 := run_conv (h1.rm.fr F.out)
  have e3 := run_conv (h2.rl.fr F.out)
  have e4 := run_conv (h2.rm.fr F.out)
  have s1 : ((strOf f.least).toList == (strOf f.least).toList) = true := by simp
  have s2 : ((strOf f.most).toList == (strOf f.most).toList) = true := by simp
  have n1 : (f.num == f.num) = true := by simp
  have n2 : (f.size == f.size) = true := by simp
  clear h1 h2
  generalize strOf f.least = x1 at *
  generalize strOf f.most = x2 at *
  generalize f.least.length = y1 at *
  generalize f.most.length = y2 at *
  generalize f.num = u1 at *
  generalize f.size = u2 at *
  go_enter Try.func36, Try.ntmps36
  go_upto_region 1 with fail
  rw [← hW]
  clear hW
  go_wp2
  go_ret
  exact ⟨rfl, F.out⟩

set_option maxRecDepth 20000 in
set_option maxHeartbeats 6400000 in
theorem editSame_c (w : World) {e : Ed} {da aa da' aa' : Option Addr} {dc ac dc' ac' : Nat} (h1 : EAt w e da dc aa ac) (h2 : EAt w e da' dc' aa' ac') :
    Calls Try.prog 16 #[.agg #[.int .i64 e.log, .int .i64 e.next, .int .u64 (e.seq : Int), .slice da e.drop.length dc, .slice aa e.add.length ac], .agg #[.int .i64 e.log, .int .i64 e.next, .int .u64 (e.seq : Int), .slice da' e.drop.length dc', .slice aa' e.add.length ac']] w fun r w' => r = .returned (.bool true) ∧ Fr [] w w' := by
  obtain ⟨lg, hlg⟩ : ∃ l, l = e.drop.length := ⟨_, rfl⟩
  obtain ⟨lp, hlp⟩ : ∃ l, l = e.add.length := ⟨_, rfl⟩
  have HLG := hid hlg
  have HLP := hid hlp
  have hd := h1.ld
  have ha := h1.la
  rw [← hlg] at hd
  rw [← hlp] at ha
  have D1 := hid h1.rd
  have D2 := hid h2.rd
  have A1 := hid h1.ra
  have A2 := hid h2.ra
  rw [← hlg, ← hlp]
  clear h1 h2 hlg hlp
  obtain ⟨u1, hu1⟩ : ∃ u, u = e.log := ⟨_, rfl⟩
  obtain ⟨u2, hu2⟩ : ∃ u, u = e.next := ⟨_, rfl⟩
  obtain ⟨u3, hu3⟩ : ∃ u, u = (e.seq : Int) := ⟨_, rfl⟩
  rw [← hu1, ← hu2, ← hu3]
  clear hu1 hu2 hu3
  obtain ⟨W, hW⟩ : ∃ W, W = (w.alloc (.cells #[.int .i64 u1, .int .i64 u2, .int .u64 u3, .slice da lg dc, .slice aa lp ac] 30)).alloc (.cells #[.int .i64 u1, .int .i64 u2, .int .u64 u3, .slice da' lg dc', .slice aa' lp ac'] 30) := ⟨_, rfl⟩
  have F : Hid (Fr [] w W) := hid (by rw [hW]; exact ((Fr.refl _ w).alloc _).alloc _)
  have A : Hid (W.heap[w.heap.size]? = some (.cells #[.int .i64 u1, .int .i64 u2, .int .u64 u3, .slice da lg dc, .slice aa lp ac] 30 (0, 0))) := hid (by rw [hW, blk_old _ _ (by simp)]; exact blk_new _ _)
  have B : Hid (W.heap[w.heap.size + 1]? = some (.cells #[.int .i64 u1, .int .i64 u2, .int .u64 u3, .slice da' lg dc', .slice aa' lp ac'] 30 (0, 0))) := hid (by rw [hW]; exact new_at _ _ (by simp))
  have CE : Hid (∀ W', Fr [] W W' → (W'.cell? ⟨w.heap.size, 3, none⟩ = some (.slice da lg dc) ∧ W'.cell? ⟨w.heap.size + 1, 3, none⟩ = some (.slice da' lg dc')) ∧ W'.cell? ⟨w.heap.size, 4, none⟩ = some (.slice aa lp ac) ∧ W'.cell? ⟨w.heap.size + 1, 4, none⟩ = some (.slice aa' lp ac')) := hid (fun W' f => by
    have k1 := f.at A.out (by simp)
    have k2 := f.at B.out (by simp)
    exact ⟨⟨by rw [blk_cell k1]; rfl, by rw [blk_cell k2]; rfl⟩, by rw [blk_cell k1]; rfl, by rw [blk_cell k2]; rfl⟩)
  have a0 := blk_cell A.out 0
  have a1 := blk_cell A.out 1
  have a2 := blk_cell A.out 2
  have a3 := blk_cell A.out 3
  have a4 := blk_cell A.out 4
  have b0 := blk_cell B.out 0
  have b1 := blk_cell B.out 1
  have b2 := blk_cell B.out 2
  have b3 := blk_cell B.out 3
  have b4 := blk_cell B.out 4
  simp at a0 a1 a2 a3 a4 b0 b1 b2 b3 b4
  have n1 : (u1 == u1) = true := by simp
  have n2 : (u2 == u2) = true := by simp
  have n3 : (u3 == u3) = true := by simp
  have n4 : ((lg : Int) == (lg : Int)) = true := by simp
  have n5 : ((lp : Int) == (lp : Int)) = true := by simp
  go_enter Try.func16, Try.ntmps16
  go_upto_region 1 with fail
  rw [← hW]
  clear hW
  go_wp2_with fail
  go_loopw [5] (fun v5 wr => ∃ i : Nat, i ≤ lg ∧ v5 = .int .i64 (i : Int) ∧ Fr [] W wr) (fun v5 _ => lg - (intOf v5).toNat)
  case atStart => exact ⟨0, by omega, rfl, Fr.refl _ _⟩
  case round =>
    obtain ⟨i, hi, rfl, hf⟩ := hrel
    have HF := hid hf
    obtain ⟨⟨c3, c3'⟩, c4, c4'⟩ := CE.out wr hf
    clear hf
    by_cases hlt : i < lg
    · obtain ⟨g, hg⟩ : ∃ g, e.drop[i]? = some g := ⟨_, List.getElem?_eq_getElem (by rw [← HLG.out]; exact hlt)⟩
      obtain ⟨x1, x2, e1, k1⟩ := D1.out
      obtain ⟨y1, y2, e2, k2⟩ := D2.out
      simp only [Value.slice.injEq] at e1 e2
      obtain ⟨rfl, h9, rfl⟩ := e1
      obtain ⟨rfl, h8, rfl⟩ := e2
      obtain ⟨b1, o1, rfl, m1⟩ := k1 (by rw [← HLG.out]; omega)
      obtain ⟨b2, o2, rfl, m2⟩ := k2 (by rw [← HLG.out]; omega)
      obtain ⟨p1, p2⟩ := m1 i g hg
      obtain ⟨q1, q2⟩ := m2 i g hg
      have r1 := cell_fr (F.out.trans HF.out) p1
      have r2 := cell_fr (F.out.trans HF.out) p2
      have r3 := cell_fr (F.out.trans HF.out) q1
      have r4 := cell_fr (F.out.trans HF.out) q2
      have hil : (i : Int) < (lg : Int) := by omega
      have hg1 : (g.1 == g.1) = true := by simp
      have hg2 : (g.2 == g.2) = true := by simp
      clear p1 p2 q1 q2 k1 k2 hg m1 m2 h8 h9
      go_upto_region 6 with fail
      go_quiet (fail)
      go_wp2
      go_roundw
      case rel => exact ⟨i + 1, by omega, by go_num, HF.out.drewN _⟩
      case measure => simp [intOf]; omega
    · have hil : ¬ (i : Int) < (lg : Int) := by omega
      go_wp2_with fail
      clear c3 c3' c4 c4'
      go_loopw [6] (fun v6 wr => ∃ i : Nat, i ≤ lp ∧ v6 = .int .i64 (i : Int) ∧ Fr [] W wr) (fun v6 _ => lp - (intOf v6).toNat)
      case atStart => exact ⟨0, by omega, rfl, HF.out⟩
      case round =>
        obtain ⟨j, hj, rfl, hf⟩ := hrel
        have HG := hid hf
        obtain ⟨_, c4, c4'⟩ := CE.out wr hf
        clear hf
        by_cases hlt2 : j < lp
        · obtain ⟨g, hg⟩ : ∃ g, e.add[j]? = some g := ⟨_, List.getElem?_eq_getElem (by rw [← HLP.out]; exact hlt2)⟩
          obtain ⟨x1, x2, e1, k1⟩ := A1.out
          obtain ⟨y1, y2, e2, k2⟩ := A2.out
          simp only [Value.slice.injEq] at e1 e2
          obtain ⟨rfl, h9, rfl⟩ := e1
          obtain ⟨rfl, h8, rfl⟩ := e2
          obtain ⟨b1, o1, rfl, m1⟩ := k1 (by rw [← HLP.out]; omega)
          obtain ⟨b2, o2, rfl, m2⟩ := k2 (by rw [← HLP.out]; omega)
          obtain ⟨p1, la, lc, ma, mc, fa⟩ := m1 j g hg
          obtain ⟨p2, la', lc', ma', mc', fb⟩ := m2 j g hg
          obtain ⟨ll, hll⟩ : ∃ l, l = g.2.least.length := ⟨_, rfl⟩
          obtain ⟨lm, hlm⟩ : ∃ l, l = g.2.most.length := ⟨_, rfl⟩
          obtain ⟨gl, hgl⟩ : ∃ x, x = g.1 := ⟨_, rfl⟩
          obtain ⟨gn, hgn⟩ : ∃ x, x = g.2.num := ⟨_, rfl⟩
          obtain ⟨gz, hgz⟩ : ∃ x, x = g.2.size := ⟨_, rfl⟩
          have FC : Hid (∀ W', Fr [] W W' → Calls Try.prog 36 #[.agg #[.int .i64 gn, .int .i64 gz, .slice la ll lc, .slice ma lm mc], .agg #[.int .i64 gn, .int .i64 gz, .slice la' ll lc', .slice ma' lm mc']] W' fun r w' => r = .returned (.bool true) ∧ Fr [] W' w') := hid (fun W' f => by rw [hgn, hgz, hll, hlm]; exact fileSame_c W' (fa.rd.fr (F.out.trans f)) (fb.rd.fr (F.out.trans f)))
          have SK : Hid (∀ W', Fr [] W W' → (W'.cell? ⟨w.heap.size, 4, none⟩ = some (.slice (some ⟨b1, o1, none⟩) lp ac) ∧ W'.cell? ⟨w.heap.size + 1, 4, none⟩ = some (.slice (some ⟨b2, o2, none⟩) lp ac')) ∧ (W'.cell? ⟨b1, o1 + j * 5, none⟩ = some (.int .i64 gl) ∧ W'.cell? ⟨b2, o2 + j * 5, none⟩ = some (.int .i64 gl)) ∧ (W'.cell? ⟨b1, o1 + j * 5 + 1, none⟩ = some (.int .i64 gn) ∧ W'.cell? ⟨b1, o1 + j * 5 + 1 + 1, none⟩ = some (.int .i64 gz) ∧ W'.cell? ⟨b1, o1 + j * 5 + 1 + 2, none⟩ = some (.slice la ll lc) ∧ W'.cell? ⟨b1, o1 + j * 5 + 1 + 3, none⟩ = some (.slice ma lm mc)) ∧ W'.cell? ⟨b2, o2 + j * 5 + 1, none⟩ = some (.int .i64 gn) ∧ W'.cell? ⟨b2, o2 + j * 5 + 1 + 1, none⟩ = some (.int .i64 gz) ∧ W'.cell? ⟨b2, o2 + j * 5 + 1 + 2, none⟩ = some (.slice la' ll lc') ∧ W'.cell? ⟨b2, o2 + j * 5 + 1 + 3, none⟩ = some (.slice ma' lm mc')) := hid (fun W' f => by
            have ff := F.out.trans f
            rw [hgl, hgn, hgz, hll, hlm]
            exact ⟨(CE.out W' f).2, ⟨cell_fr ff p1, cell_fr ff p2⟩, ⟨cell_fr ff fa.c0, cell_fr ff fa.c1, cell_fr ff fa.c2, cell_fr ff fa.c3⟩, cell_fr ff fb.c0, cell_fr ff fb.c1, cell_fr ff fb.c2, cell_fr ff fb.c3⟩)
          have hil2 : (j : Int) < (lp : Int) := by omega
          have hgg : (gl == gl) = true := by simp
          clear p1 p2 fa fb k1 k2 m1 m2 hg h8 h9 hll hlm hgl hgn hgz
          go_upto_region 11 with fail
          clear c4 c4'
          refine wp_region_held_drew (S := fun w' => Fr [] W w') (by kernel_rfl) HG.out.drew (fun hS => ?_)
          refine wpAnyH_take (i := 0) (v := .pointer (some ⟨w.heap.size, 4, none⟩)) rfl (by kernel_rfl) (by kernel_rfl) (by kernel_rfl) (fun _ _ _ h => h) (.inl ⟨by kernel_rfl, fun wx _ => by go_simp⟩) hS ?_
          simp only [Act.put, List.getElem_toArray, List.getElem_cons_zero, List.set_cons_succ, List.set_cons_zero, List.setIfInBounds_toArray]
          refine wpAnyH_take (i := 1) (v := .slice (some ⟨b1, o1, none⟩) lp ac) rfl (by kernel_rfl) (by kernel_rfl) (by kernel_rfl) (fun _ _ _ h => h) (.inl ⟨by kernel_rfl, fun wx hX => by obtain ⟨⟨s0, s1⟩, ⟨s2, s3⟩, ⟨s4, s5, s6, s7⟩, s8, s9, s10, s11⟩ := SK.out wx hX; go_simp⟩) hS ?_
          simp only [Act.put, List.getElem_toArray, List.getElem_cons_succ, List.getElem_cons_zero, List.set_cons_succ, List.set_cons_zero, List.setIfInBounds_toArray]
          refine wpAnyH_take (i := 2) (v := .int .i64 (j : Int)) rfl (by kernel_rfl) (by kernel_rfl) (by kernel_rfl) (fun _ _ _ h => h) (.inl ⟨by kernel_rfl, fun wx _ => by go_simp⟩) hS ?_
          simp only [Act.put, List.getElem_toArray, List.getElem_cons_succ, List.getElem_cons_zero, List.set_cons_succ, List.set_cons_zero, List.setIfInBounds_toArray]
          refine wpAnyH_take (i := 3) (v := .pointer (some ⟨b1, o1 + j * 5, none⟩)) rfl (by kernel_rfl) (by kernel_rfl) (by kernel_rfl) (fun _ _ _ h => h) (.inl ⟨by kernel_rfl, fun wx _ => by go_simp⟩) hS ?_
          simp only [Act.put, List.getElem_toArray, List.getElem_cons_succ, List.getElem_cons_zero, List.set_cons_succ, List.set_cons_zero, List.setIfInBounds_toArray]
          refine wpAnyH_take (i := 4) (v := .pointer (some ⟨b1, o1 + j * 5, none⟩)) rfl (by kernel_rfl) (by kernel_rfl) (by kernel_rfl) (fun _ _ _ h => h) (.inl ⟨by kernel_rfl, fun wx _ => by go_simp⟩) hS ?_
          simp only [Act.put, List.getElem_toArray, List.getElem_cons_succ, List.getElem_cons_zero, List.set_cons_succ, List.set_cons_zero, List.setIfInBounds_toArray]
          refine wpAnyH_take (i := 5) (v := .int .i64 gl) rfl (by kernel_rfl) (by kernel_rfl) (by kernel_rfl) (fun _ _ _ h => h) (.inl ⟨by kernel_rfl, fun wx hX => by obtain ⟨⟨s0, s1⟩, ⟨s2, s3⟩, ⟨s4, s5, s6, s7⟩, s8, s9, s10, s11⟩ := SK.out wx hX; go_simp⟩) hS ?_
          simp only [Act.put, List.getElem_toArray, List.getElem_cons_succ, List.getElem_cons_zero, List.set_cons_succ, List.set_cons_zero, List.setIfInBounds_toArray]
          refine wpAnyH_take (i := 6) (v := .pointer (some ⟨w.heap.size + 1, 4, none⟩)) rfl (by kernel_rfl) (by kernel_rfl) (by kernel_rfl) (fun _ _ _ h => h) (.inl ⟨by kernel_rfl, fun wx _ => by go_simp⟩) hS ?_
          simp only [Act.put, List.getElem_toArray, List.getElem_cons_succ, List.getElem_cons_zero, List.set_cons_succ, List.set_cons_zero, List.setIfInBounds_toArray]
          refine wpAnyH_take (i := 7) (v := .slice (some ⟨b2, o2, none⟩) lp ac') rfl (by kernel_rfl) (by kernel_rfl) (by kernel_rfl) (fun _ _ _ h => h) (.inl ⟨by kernel_rfl, fun wx hX => by obtain ⟨⟨s0, s1⟩, ⟨s2, s3⟩, ⟨s4, s5, s6, s7⟩, s8, s9, s10, s11⟩ := SK.out wx hX; go_simp⟩) hS ?_
          simp only [Act.put, List.getElem_toArray, List.getElem_cons_succ, List.getElem_cons_zero, List.set_cons_succ, List.set_cons_zero, List.setIfInBounds_toArray]
          refine wpAnyH_take (i := 8) (v := .int .i64 (j : Int)) rfl (by kernel_rfl) (by kernel_rfl) (by kernel_rfl) (fun _ _ _ h => h) (.inl ⟨by kernel_rfl, fun wx _ => by go_simp⟩) hS ?_
          simp only [Act.put, List.getElem_toArray, List.getElem_cons_succ, List.getElem_cons_zero, List.set_cons_succ, List.set_cons_zero, List.setIfInBounds_toArray]
          refine wpAnyH_take (i := 9) (v := .pointer (some ⟨b2, o2 + j * 5, none⟩)) rfl (by kernel_rfl) (by kernel_rfl) (by kernel_rfl) (fun _ _ _ h => h) (.inl ⟨by kernel_rfl, fun wx _ => by go_simp⟩) hS ?_
          simp only [Act.put, List.getElem_toArray, List.getElem_cons_succ, List.getElem_cons_zero, List.set_cons_succ, List.set_cons_zero, List.setIfInBounds_toArray]
          refine wpAnyH_take (i := 10) (v := .pointer (some ⟨b2, o2 + j * 5, none⟩)) rfl (by kernel_rfl) (by kernel_rfl) (by kernel_rfl) (fun _ _ _ h => h) (.inl ⟨by kernel_rfl, fun wx _ => by go_simp⟩) hS ?_
          simp only [Act.put, List.getElem_toArray, List.getElem_cons_succ, List.getElem_cons_zero, List.set_cons_succ, List.set_cons_zero, List.setIfInBounds_toArray]
          refine wpAnyH_take (i := 11) (v := .int .i64 gl) rfl (by kernel_rfl) (by kernel_rfl) (by kernel_rfl) (fun _ _ _ h => h) (.inl ⟨by kernel_rfl, fun wx hX => by obtain ⟨⟨s0, s1⟩, ⟨s2, s3⟩, ⟨s4, s5, s6, s7⟩, s8, s9, s10, s11⟩ := SK.out wx hX; go_simp⟩) hS ?_
          simp only [Act.put, List.getElem_toArray, List.getElem_cons_succ, List.getElem_cons_zero, List.set_cons_succ, List.set_cons_zero, List.setIfInBounds_toArray]
          refine wpAnyH_take (i := 12) (v := .bool false) rfl (by kernel_rfl) (by kernel_rfl) (by kernel_rfl) (fun _ _ _ h => h) (.inl ⟨by kernel_rfl, fun wx _ => by go_simp⟩) hS ?_
          simp only [Act.put, List.getElem_toArray, List.getElem_cons_succ, List.getElem_cons_zero, List.set_cons_succ, List.set_cons_zero, List.setIfInBounds_toArray]
          refine wpAnyH_take (i := 13) (v := .bool false) rfl (by kernel_rfl) (by kernel_rfl) (by kernel_rfl) (fun _ _ _ h => h) (.inl ⟨by kernel_rfl, fun wx _ => by go_simp⟩) hS ?_
          simp only [Act.put, List.getElem_toArray, List.getElem_cons_succ, List.getElem_cons_zero, List.set_cons_succ, List.set_cons_zero, List.setIfInBounds_toArray]
          refine wpAnyH_take (i := 14) (v := .pointer (some ⟨w.heap.size, 4, none⟩)) rfl (by kernel_rfl) (by kernel_rfl) (by kernel_rfl) (fun _ _ _ h => h) (.inl ⟨by kernel_rfl, fun wx _ => by go_simp⟩) hS ?_
          simp only [Act.put, List.getElem_toArray, List.getElem_cons_succ, List.getElem_cons_zero, List.set_cons_succ, List.set_cons_zero, List.setIfInBounds_toArray]
          refine wpAnyH_take (i := 15) (v := .slice (some ⟨b1, o1, none⟩) lp ac) rfl (by kernel_rfl) (by kernel_rfl) (by kernel_rfl) (fun _ _ _ h => h) (.inl ⟨by kernel_rfl, fun wx hX => by obtain ⟨⟨s0, s1⟩, ⟨s2, s3⟩, ⟨s4, s5, s6, s7⟩, s8, s9, s10, s11⟩ := SK.out wx hX; go_simp⟩) hS ?_
          simp only [Act.put, List.getElem_toArray, List.getElem_cons_succ, List.getElem_cons_zero, List.set_cons_succ, List.set_cons_zero, List.setIfInBounds_toArray]
          refine wpAnyH_take (i := 16) (v := .int .i64 (j : Int)) rfl (by kernel_rfl) (by kernel_rfl) (by kernel_rfl) (fun _ _ _ h => h) (.inl ⟨by kernel_rfl, fun wx _ => by go_simp⟩) hS ?_
          simp only [Act.put, List.getElem_toArray, List.getElem_cons_succ, List.getElem_cons_zero, List.set_cons_succ, List.set_cons_zero, List.setIfInBounds_toArray]
          refine wpAnyH_take (i := 17) (v := .pointer (some ⟨b1, o1 + j * 5, none⟩)) rfl (by kernel_rfl) (by kernel_rfl) (by kernel_rfl) (fun _ _ _ h => h) (.inl ⟨by kernel_rfl, fun wx _ => by go_simp⟩) hS ?_
          simp only [Act.put, List.getElem_toArray, List.getElem_cons_succ, List.getElem_cons_zero, List.set_cons_succ, List.set_cons_zero, List.setIfInBounds_toArray]
          refine wpAnyH_take (i := 18) (v := .pointer (some ⟨b1, o1 + j * 5 + 1, none⟩)) rfl (by kernel_rfl) (by kernel_rfl) (by kernel_rfl) (fun _ _ _ h => h) (.inl ⟨by kernel_rfl, fun wx _ => by go_simp⟩) hS ?_
          simp only [Act.put, List.getElem_toArray, List.getElem_cons_succ, List.getElem_cons_zero, List.set_cons_succ, List.set_cons_zero, List.setIfInBounds_toArray]
          refine wpAnyH_take (i := 19) (v := .agg #[.int .i64 gn, .int .i64 gz, .slice la ll lc, .slice ma lm mc]) rfl (by kernel_rfl) (by kernel_rfl) (by kernel_rfl) (fun _ _ _ h => h) (.inl ⟨by kernel_rfl, fun wx hX => by obtain ⟨⟨s0, s1⟩, ⟨s2, s3⟩, ⟨s4, s5, s6, s7⟩, s8, s9, s10, s11⟩ := SK.out wx hX; go_simp⟩) hS ?_
          simp only [Act.put, List.getElem_toArray, List.getElem_cons_succ, List.getElem_cons_zero, List.set_cons_succ, List.set_cons_zero, List.setIfInBounds_toArray]
          refine wpAnyH_take (i := 20) (v := .pointer (some ⟨w.heap.size + 1, 4, none⟩)) rfl (by kernel_rfl) (by kernel_rfl) (by kernel_rfl) (fun _ _ _ h => h) (.inl ⟨by kernel_rfl, fun wx _ => by go_simp⟩) hS ?_
          simp only [Act.put, List.getElem_toArray, List.getElem_cons_succ, List.getElem_cons_zero, List.set_cons_succ, List.set_cons_zero, List.setIfInBounds_toArray]
          refine wpAnyH_take (i := 21) (v := .slice (some ⟨b2, o2, none⟩) lp ac') rfl (by kernel_rfl) (by kernel_rfl) (by kernel_rfl) (fun _ _ _ h => h) (.inl ⟨by kernel_rfl, fun wx hX => by obtain ⟨⟨s0, s1⟩, ⟨s2, s3⟩, ⟨s4, s5, s6, s7⟩, s8, s9, s10, s11⟩ := SK.out wx hX; go_simp⟩) hS ?_
          simp only [Act.put, List.getElem_toArray, List.getElem_cons_succ, List.getElem_cons_zero, List.set_cons_succ, List.set_cons_zero, List.setIfInBounds_toArray]
          refine wpAnyH_take (i := 22) (v := .int .i64 (j : Int)) rfl (by kernel_rfl) (by kernel_rfl) (by kernel_rfl) (fun _ _ _ h => h) (.inl ⟨by kernel_rfl, fun wx _ => by go_simp⟩) hS ?_
          simp only [Act.put, List.getElem_toArray, List.getElem_cons_succ, List.getElem_cons_zero, List.set_cons_succ, List.set_cons_zero, List.setIfInBounds_toArray]
          refine wpAnyH_take (i := 23) (v := .pointer (some ⟨b2, o2 + j * 5, none⟩)) rfl (by kernel_rfl) (by kernel_rfl) (by kernel_rfl) (fun _ _ _ h => h) (.inl ⟨by kernel_rfl, fun wx _ => by go_simp⟩) hS ?_
          simp only [Act.put, List.getElem_toArray, List.getElem_cons_succ, List.getElem_cons_zero, List.set_cons_succ, List.set_cons_zero, List.setIfInBounds_toArray]
          refine wpAnyH_take (i := 24) (v := .pointer (some ⟨b2, o2 + j * 5 + 1, none⟩)) rfl (by kernel_rfl) (by kernel_rfl) (by kernel_rfl) (fun _ _ _ h => h) (.inl ⟨by kernel_rfl, fun wx _ => by go_simp⟩) hS ?_
          simp only [Act.put, List.getElem_toArray, List.getElem_cons_succ, List.getElem_cons_zero, List.set_cons_succ, List.set_cons_zero, List.setIfInBounds_toArray]
          refine wpAnyH_take (i := 25) (v := .agg #[.int .i64 gn, .int .i64 gz, .slice la' ll lc', .slice ma' lm mc']) rfl (by kernel_rfl) (by kernel_rfl) (by kernel_rfl) (fun _ _ _ h => h) (.inl ⟨by kernel_rfl, fun wx hX => by obtain ⟨⟨s0, s1⟩, ⟨s2, s3⟩, ⟨s4, s5, s6, s7⟩, s8, s9, s10, s11⟩ := SK.out wx hX; go_simp⟩) hS ?_
          simp only [Act.put, List.getElem_toArray, List.getElem_cons_succ, List.getElem_cons_zero, List.set_cons_succ, List.set_cons_zero, List.setIfInBounds_toArray]
          clear hS
          refine wpAnyH_ready (rs := [26]) (by kernel_rfl) (by simp) ?_
          refine AllReadyH.cons rfl (fun K hK => ?_) AllReadyH.nil
          go_simp
          refine (FC.out _ HG.out.drew).mono ?_
          rintro r x1 ⟨rfl, f1⟩
          have G1 := hid (HG.out.drew.trans f1)
          refine hK.out _ _ G1.out (fun hS1 => ?_)
          clear hK K f1
          refine wpAnyH_take (i := 27) (v := .bool false) rfl (by kernel_rfl) (by kernel_rfl) (by kernel_rfl) (fun _ _ _ h => h) (.inl ⟨by kernel_rfl, fun wx _ => by go_simp⟩) hS1 ?_
          simp only [Act.put, List.getElem_toArray, List.getElem_cons_succ, List.getElem_cons_zero, List.set_cons_succ, List.set_cons_zero, List.setIfInBounds_toArray]
          refine wpAnyH_take (i := 28) (v := .bool false) rfl (by kernel_rfl) (by kernel_rfl) (by kernel_rfl) (fun _ _ _ h => h) (.inl ⟨by kernel_rfl, fun wx _ => by go_simp⟩) hS1 ?_
          simp only [Act.put, List.getElem_toArray, List.getElem_cons_succ, List.getElem_cons_zero, List.set_cons_succ, List.set_cons_zero, List.setIfInBounds_toArray]
          clear hS1
          refine wpAnyH_done (by kernel_rfl) ?_ _
          go_wp2
          go_roundw
          case rel => exact ⟨j + 1, by omega, by go_num, G1.out⟩
          case measure => simp [intOf]; omega
        · have hil2 : ¬ (j : Int) < (lp : Int) := by omega
          go_wp2
          go_ret
          exact ⟨rfl, F.out.trans HG.out⟩
end Go.Proofs.Ytckdcaegnbgomaa
