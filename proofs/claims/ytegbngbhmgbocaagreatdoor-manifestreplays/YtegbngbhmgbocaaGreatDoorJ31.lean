/-
  The law of the bytes of an edit, walked behind known.
-/
import Derived.Test.YtegbngbhmgbocaaGreatDoorEK
import Derived.Test.YtegbngbhmgbocaaGreatDoorJ06
import Derived.Test.YtegbngbhmgbocaaGreatDoorJ28
import Derived.Deep.RegionHeld
import Derived.Test.YtegbngbhmgbocaaGreatDoorJ14
namespace Go.Proofs.YtegbngbhmgbocaaGreatDoor
open Go.ChangeShapes Go.WideShapes Go.ChangeAt Go.RowKit

end Go.Proofs.YtegbngbhmgbocaaGreatDoor
namespace Go.Proofs.YtegbngbhmgbocaaGreatDoor
open Go.ChangeShapes Go.WideShapes Go.ChangeAt Go.RowKit

set_option maxRecDepth 20000 in
set_option maxHeartbeats 1600000 in
theorem fileSame_c (w : World) {f : Fl} {la ma la' ma' : Option Addr} {lc mc lc' mc' : Nat} (h1 : FRd w f la lc ma mc) (h2 : FRd w f la' lc' ma' mc') :
    Calls Tryz.prog 42 #[.agg #[.int .i64 f.num, .int .i64 f.size, .slice la f.least.length lc, .slice ma f.most.length mc], .agg #[.int .i64 f.num, .int .i64 f.size, .slice la' f.least.length lc', .slice ma' f.most.length mc']] w fun r w' => r = .returned (.bool true) ∧ Fr [] w w' := by
  obtain ⟨W, hW⟩ : ∃ W, W = (w.alloc (.cells #[.int .i64 f.num, .int .i64 f.size, .slice la f.least.length lc, .slice ma f.most.length mc] 62)).alloc (.cells #[.int .i64 f.num, .int .i64 f.size, .slice la' f.least.length lc', .slice ma' f.most.length mc'] 62) := ⟨_, rfl⟩
  have F : Hid (Fr [] w W) := hid (by rw [hW]; exact ((Fr.refl _ w).alloc _).alloc _)
  have A : Hid (W.heap[w.heap.size]? = some (.cells #[.int .i64 f.num, .int .i64 f.size, .slice la f.least.length lc, .slice ma f.most.length mc] 62 (0, 0))) := hid (by rw [hW, blk_old _ _ (by simp)]; exact blk_new _ _)
  have B : Hid (W.heap[w.heap.size + 1]? = some (.cells #[.int .i64 f.num, .int .i64 f.size, .slice la' f.least.length lc', .slice ma' f.most.length mc'] 62 (0, 0))) := hid (by rw [hW]; exact new_at _ _ (by simp))
  have a0 := blk_cell A.out 0
  have a1 := blk_cell A.out 1
  have a2 := blk_cell A.out 2
  have a3 := blk_cell A.out 3
  have b0 := blk_cell B.out 0
  have b1 := blk_cell B.out 1
  have b2 := blk_cell B.out 2
  have b3 := blk_cell B.out 3
  simp at a0 a1 a2 a3 b0 b1 b2 b3
  have e1 := run_conv (h1.rl.fr F.out)
  have e2 := run_conv (h1.rm.fr F.out)
  have e3 := run_conv (h2.rl.fr F.out)
  have e4 := run_conv (h2.rm.fr F.out)
  have s1 : ((strOf f.least).toList == (strOf f.least).toList) = true := by simp
  have s2 : ((strOf f.most).toList == (strOf f.most).toList) = true := by simp
  have n1 : (f.num == f.num) = true := by simp
  have n2 : (f.size == f.size) = true := by simp
  clear h1 h2
  generalize strOf f.least = x1 at *
  generalize strOf f.most = x2 at *
  generalize f.least.length = y1 at *
  generalize f.most.length = y2 at *
  generalize f.num = u1 at *
  generalize f.size = u2 at *
  go_enter Tryz.func42, Tryz.ntmps42
  go_upto_region 1 with fail
  rw [← hW]
  clear hW
  go_wp2
  go_ret
  exact ⟨rfl, F.out⟩

end Go.Proofs.YtegbngbhmgbocaaGreatDoor
namespace Go.Proofs.YtegbngbhmgbocaaGreatDoor
open Go.ChangeShapes Go.WideShapes Go.ChangeAt Go.RowKit

/-- Few tables in each level. -/
def smallV (ln : Nat → Nat) : Prop := ∀ i, i < 5 → ln i ≤ 20
structure SOut (w w' : World) (ln : Nat → Nat) (r : Ending) : Prop where
  fr : Fr [] w w'
  out : ∃ bb : Bool, r = .returned (.bool bb) ∧ (bb = true ↔ smallV ln)
theorem cell5 {W : World} {k : Nat} {t : TypeId} {c0 c1 c2 : Value} {ad : Nat → Option Addr} {ln cp : Nat → Nat} (n : W.heap[k]? = some (.cells #[c0, c1, c2, .slice (ad 0) (ln 0) (cp 0), .slice (ad 1) (ln 1) (cp 1), .slice (ad 2) (ln 2) (cp 2), .slice (ad 3) (ln 3) (cp 3), .slice (ad 4) (ln 4) (cp 4)] t (0, 0))) {i : Nat} (hi : i < 5) : W.cell? ⟨k, 3 + i, none⟩ = some (.slice (ad i) (ln i) (cp i)) := by
  rw [blk_cell n]
  rcases (show i = 0 ∨ i = 1 ∨ i = 2 ∨ i = 3 ∨ i = 4 from by omega) with rfl | rfl | rfl | rfl | rfl <;> rfl
set_option maxRecDepth 20000 in
set_option maxHeartbeats 3200000 in
theorem files_c (w : World) {fs : List Fl} {a a' : Option Addr} {n c c' : Nat} (hn : n = fs.length) (hl : n ≤ 140737488355328) (h1 : RdF w a n fs) (h2 : RdF w a' n fs) :
    Calls Tryz.prog 16 #[.slice a n c, .slice a' n c'] w fun r w' => r = .returned (.bool true) ∧ Fr [] w w' := by
  have HN := hid hn
  have H1 := hid h1
  have H2 := hid h2
  have hnn : ((n : Int) == (n : Int)) = true := by simp
  clear hn h1 h2
  go_enter Tryz.func16, Tryz.ntmps16
  go_wp2_with fail
  go_loopw [5] (fun v5 wr => ∃ i : Nat, i ≤ n ∧ v5 = .int .i64 (i : Int) ∧ Fr [] w wr) (fun v5 _ => n - (intOf v5).toNat)
  case atStart => exact ⟨0, by omega, rfl, Fr.refl _ _⟩
  case round =>
    obtain ⟨i, hi, rfl, hf⟩ := hrel
    have HF := hid hf
    clear hf
    by_cases hlt : i < n
    · have hlt' : (i : Int) < (n : Int) := by omega
      obtain ⟨f, hf⟩ : ∃ f, fs[i]? = some f := ⟨_, List.getElem?_eq_getElem (by rw [← HN.out]; exact hlt)⟩
      obtain ⟨b, o, hb, m1⟩ := H1.out (by omega)
      obtain ⟨b', o', hb', m2⟩ := H2.out (by omega)
      subst hb
      subst hb'
      obtain ⟨la, lc, ma, mc, k1⟩ := m1 i f hf
      obtain ⟨la', lc', ma', mc', k2⟩ := m2 i f hf
      clear m1 m2 hf
      have SK : Hid (∀ W', Fr [] wr W' → (W'.cell? ⟨b, o + i * 4, none⟩ = some (.int .i64 f.num) ∧ W'.cell? ⟨b, o + i * 4 + 1, none⟩ = some (.int .i64 f.size) ∧ W'.cell? ⟨b, o + i * 4 + 2, none⟩ = some (.slice la f.least.length lc) ∧ W'.cell? ⟨b, o + i * 4 + 3, none⟩ = some (.slice ma f.most.length mc)) ∧ W'.cell? ⟨b', o' + i * 4, none⟩ = some (.int .i64 f.num) ∧ W'.cell? ⟨b', o' + i * 4 + 1, none⟩ = some (.int .i64 f.size) ∧ W'.cell? ⟨b', o' + i * 4 + 2, none⟩ = some (.slice la' f.least.length lc') ∧ W'.cell? ⟨b', o' + i * 4 + 3, none⟩ = some (.slice ma' f.most.length mc')) := hid (fun W' g => by
        have ff := HF.out.trans g
        exact ⟨⟨cell_fr ff k1.c0, cell_fr ff k1.c1, cell_fr ff k1.c2, cell_fr ff k1.c3⟩, cell_fr ff k2.c0, cell_fr ff k2.c1, cell_fr ff k2.c2, cell_fr ff k2.c3⟩)
      have FC : Hid (∀ W', Fr [] wr W' → _) := hid (fun W' g => fileSame_c W' (k1.rd.fr (HF.out.trans g)) (k2.rd.fr (HF.out.trans g)))
      clear k1 k2
      go_upto_region 6 with fail
      refine wp_region_held_drew (S := fun w' => Fr [] wr w') (by kernel_rfl) (Fr.refl [] wr).drew (fun hS => ?_)
      refine wpAnyH_take (i := 0) (v := .slice (some ⟨b, o, none⟩) n c) rfl (by kernel_rfl) (by kernel_rfl) (by kernel_rfl) (fun _ _ _ h => h) (.inl ⟨by rfl, fun wx _ => by go_simp⟩) hS ?_
      simp only [Act.put]
      refine wpAnyH_take (i := 1) (v := .int .i64 (i : Int)) rfl (by kernel_rfl) (by kernel_rfl) (by kernel_rfl) (fun _ _ _ h => h) (.inl ⟨by rfl, fun wx _ => by go_simp⟩) hS ?_
      simp only [Act.put]
      refine wpAnyH_take (i := 2) (v := .pointer (some ⟨b, o + i * 4, none⟩)) rfl (by kernel_rfl) (by kernel_rfl) (by kernel_rfl) (fun _ _ _ h => h) (.inl ⟨by rfl, fun wx _ => by go_simp⟩) hS ?_
      simp only [Act.put]
      refine wpAnyH_take (i := 3) (v := .agg #[.int .i64 f.num, .int .i64 f.size, .slice la f.least.length lc, .slice ma f.most.length mc]) rfl (by kernel_rfl) (by kernel_rfl) (by kernel_rfl) (fun _ _ _ h => h) (.inl ⟨by rfl, fun wx hX => by obtain ⟨⟨s0, s1, s2, s3⟩, s4, s5, s6, s7⟩ := SK.out wx hX; go_simp⟩) hS ?_
      simp only [Act.put]
      refine wpAnyH_take (i := 4) (v := .slice (some ⟨b', o', none⟩) n c') rfl (by kernel_rfl) (by kernel_rfl) (by kernel_rfl) (fun _ _ _ h => h) (.inl ⟨by rfl, fun wx _ => by go_simp⟩) hS ?_
      simp only [Act.put]
      refine wpAnyH_take (i := 5) (v := .int .i64 (i : Int)) rfl (by kernel_rfl) (by kernel_rfl) (by kernel_rfl) (fun _ _ _ h => h) (.inl ⟨by rfl, fun wx _ => by go_simp⟩) hS ?_
      simp only [Act.put]
      refine wpAnyH_take (i := 6) (v := .pointer (some ⟨b', o' + i * 4, none⟩)) rfl (by kernel_rfl) (by kernel_rfl) (by kernel_rfl) (fun _ _ _ h => h) (.inl ⟨by rfl, fun wx _ => by go_simp⟩) hS ?_
      simp only [Act.put]
      refine wpAnyH_take (i := 7) (v := .agg #[.int .i64 f.num, .int .i64 f.size, .slice la' f.least.length lc', .slice ma' f.most.length mc']) rfl (by kernel_rfl) (by kernel_rfl) (by kernel_rfl) (fun _ _ _ h => h) (.inl ⟨by rfl, fun wx hX => by obtain ⟨⟨s0, s1, s2, s3⟩, s4, s5, s6, s7⟩ := SK.out wx hX; go_simp⟩) hS ?_
      simp only [Act.put]
      clear hS
      refine wpAnyH_ready (rs := [8]) (by kernel_rfl) (by simp) ?_
      refine AllReadyH.cons rfl (fun K hK => ?_) AllReadyH.nil
      go_simp
      refine (FC.out _ (Fr.refl [] wr).drew).mono ?_
      rintro r w3 ⟨rfl, f3⟩
      have F3 := hid ((Fr.refl [] wr).drew.trans f3)
      refine hK.out _ _ F3.out (fun hS => ?_)
      clear hK K f3
      refine wpAnyH_take (i := 9) (v := .bool false) rfl (by kernel_rfl) (by kernel_rfl) (by kernel_rfl) (fun _ _ _ h => h) (.inl ⟨by rfl, fun wx _ => by go_simp⟩) hS ?_
      simp only [Act.put]
      clear hS
      refine wpAnyH_done (by kernel_rfl) ?_ _
      go_wp2_with fail
      go_roundw
      case rel => exact ⟨i + 1, by omega, by go_num, HF.out.trans F3.out⟩
      case measure => simp [intOf]; omega
    · have hge : ¬ (i : Int) < (n : Int) := by omega
      go_wp2_with fail
      go_ret
      exact ⟨rfl, HF.out⟩
set_option maxRecDepth 20000 in
set_option maxHeartbeats 3200000 in
theorem version_c (w : World) (lg nx : Int) (sq : Nat) {L : Nat → List Fl} {ad ad' : Nat → Option Addr} {ln cp cp' : Nat → Nat} (h1 : VAt w L ad ln cp) (h2 : VAt w L ad' ln cp') :
    Calls Tryz.prog 7 #[.agg #[.int .i64 lg, .int .i64 nx, .int .u64 (sq : Int), .slice (ad 0) (ln 0) (cp 0), .slice (ad 1) (ln 1) (cp 1), .slice (ad 2) (ln 2) (cp 2), .slice (ad 3) (ln 3) (cp 3), .slice (ad 4) (ln 4) (cp 4)], .agg #[.int .i64 lg, .int .i64 nx, .int .u64 (sq : Int), .slice (ad' 0) (ln 0) (cp' 0), .slice (ad' 1) (ln 1) (cp' 1), .slice (ad' 2) (ln 2) (cp' 2), .slice (ad' 3) (ln 3) (cp' 3), .slice (ad' 4) (ln 4) (cp' 4)]] w fun r w' => r = .returned (.bool true) ∧ Fr [] w w' := by
  obtain ⟨W0, hW0⟩ : ∃ W0, W0 = (w.alloc (.cells #[.int .i64 lg, .int .i64 nx, .int .u64 (sq : Int), .slice (ad 0) (ln 0) (cp 0), .slice (ad 1) (ln 1) (cp 1), .slice (ad 2) (ln 2) (cp 2), .slice (ad 3) (ln 3) (cp 3), .slice (ad 4) (ln 4) (cp 4)] 28)).alloc (.cells #[.int .i64 lg, .int .i64 nx, .int .u64 (sq : Int), .slice (ad' 0) (ln 0) (cp' 0), .slice (ad' 1) (ln 1) (cp' 1), .slice (ad' 2) (ln 2) (cp' 2), .slice (ad' 3) (ln 3) (cp' 3), .slice (ad' 4) (ln 4) (cp' 4)] 28) := ⟨_, rfl⟩
  have F0 : Hid (Fr [] w W0) := hid (by rw [hW0]; exact ((Fr.refl _ _).alloc _).alloc _)
  have N0 : Hid (W0.heap[w.heap.size]? = some (.cells #[.int .i64 lg, .int .i64 nx, .int .u64 (sq : Int), .slice (ad 0) (ln 0) (cp 0), .slice (ad 1) (ln 1) (cp 1), .slice (ad 2) (ln 2) (cp 2), .slice (ad 3) (ln 3) (cp 3), .slice (ad 4) (ln 4) (cp 4)] 28 (0, 0))) := hid (by rw [hW0, blk_old _ _ (by simp)]; exact blk_new _ _)
  have N1 : Hid (W0.heap[w.heap.size + 1]? = some (.cells #[.int .i64 lg, .int .i64 nx, .int .u64 (sq : Int), .slice (ad' 0) (ln 0) (cp' 0), .slice (ad' 1) (ln 1) (cp' 1), .slice (ad' 2) (ln 2) (cp' 2), .slice (ad' 3) (ln 3) (cp' 3), .slice (ad' 4) (ln 4) (cp' 4)] 28 (0, 0))) := hid (by rw [hW0]; exact new_at _ _ (by simp))
  have H1 := hid (h1.fr F0.out)
  have H2 := hid (h2.fr F0.out)
  obtain ⟨z0, z1, z2, z3, z4, z5, z6, z7⟩ := vn_cells N0.out
  obtain ⟨x0, x1, x2, x3, x4, x5, x6, x7⟩ := vn_cells N1.out
  have e1 : (lg == lg) = true := by simp
  have e2 : (nx == nx) = true := by simp
  have e3 : ((sq : Int) == (sq : Int)) = true := by simp
  clear h1 h2
  go_enter Tryz.func7, Tryz.ntmps7
  go_upto_region 1 with fail
  rw [← hW0]
  clear hW0
  go_wp2_with fail
  clear z0 z1 z2 z3 z4 z5 z6 z7 x0 x1 x2 x3 x4 x5 x6 x7
  go_loopw [5] (fun v5 wr => ∃ i : Nat, i ≤ 5 ∧ v5 = .int .i64 (i : Int) ∧ Fr [] W0 wr) (fun v5 _ => 5 - (intOf v5).toNat)
  case atStart => exact ⟨0, by omega, rfl, Fr.refl _ _⟩
  case round =>
    obtain ⟨i, hi, rfl, hf⟩ := hrel
    have HF := hid hf
    clear hf
    by_cases hlt : i < 5
    · have hlt' : (i : Int) < 5 := by omega
      have SK : Hid (∀ W', Fr [] wr W' → W'.cell? ⟨w.heap.size, 3 + i, none⟩ = some (.slice (ad i) (ln i) (cp i)) ∧ W'.cell? ⟨w.heap.size + 1, 3 + i, none⟩ = some (.slice (ad' i) (ln i) (cp' i))) := hid (fun W' g => ⟨cell5 ((HF.out.trans g).at N0.out (by simp)) hlt, cell5 ((HF.out.trans g).at N1.out (by simp)) hlt⟩)
      have FC : Hid (∀ W', Fr [] wr W' → _) := hid (fun W' g => files_c W' (c := cp i) (c' := cp' i) (H1.out.len i hlt) (H1.out.small i hlt) (lev_fs (H1.out.fr (HF.out.trans g)) hlt) (lev_fs (H2.out.fr (HF.out.trans g)) hlt))
      generalize ad i = ai at *
      generalize ad' i = ai' at *
      generalize ln i = li at *
      generalize cp i = ci at *
      generalize cp' i = ci' at *
      go_upto_region 6 with fail
      refine wp_region_held_drew (S := fun w' => Fr [] wr w') (by kernel_rfl) (Fr.refl [] wr).drew (fun hS => ?_)
      refine wpAnyH_take (i := 0) (v := .int .i64 (i : Int)) rfl (by kernel_rfl) (by kernel_rfl) (by kernel_rfl) (fun _ _ _ h => h) (.inl ⟨by rfl, fun wx _ => by go_simp⟩) hS ?_
      simp only [Act.put]
      refine wpAnyH_take (i := 1) (v := .pointer (some ⟨w.heap.size, 3, none⟩)) rfl (by kernel_rfl) (by kernel_rfl) (by kernel_rfl) (fun _ _ _ h => h) (.inl ⟨by rfl, fun wx _ => by go_simp⟩) hS ?_
      simp only [Act.put]
      refine wpAnyH_take (i := 2) (v := .pointer (some ⟨w.heap.size, 3 + i, none⟩)) rfl (by kernel_rfl) (by kernel_rfl) (by kernel_rfl) (fun _ _ _ h => h) (.inl ⟨by rfl, fun wx _ => by go_simp⟩) hS ?_
      simp only [Act.put]
      refine wpAnyH_take (i := 3) (v := .slice ai li ci) rfl (by kernel_rfl) (by kernel_rfl) (by kernel_rfl) (fun _ _ _ h => h) (.inl ⟨by rfl, fun wx hX => by obtain ⟨s0, s1⟩ := SK.out wx hX; go_simp⟩) hS ?_
      simp only [Act.put]
      refine wpAnyH_take (i := 4) (v := .int .i64 (i : Int)) rfl (by kernel_rfl) (by kernel_rfl) (by kernel_rfl) (fun _ _ _ h => h) (.inl ⟨by rfl, fun wx _ => by go_simp⟩) hS ?_
      simp only [Act.put]
      refine wpAnyH_take (i := 5) (v := .pointer (some ⟨w.heap.size + 1, 3, none⟩)) rfl (by kernel_rfl) (by kernel_rfl) (by kernel_rfl) (fun _ _ _ h => h) (.inl ⟨by rfl, fun wx _ => by go_simp⟩) hS ?_
      simp only [Act.put]
      refine wpAnyH_take (i := 6) (v := .pointer (some ⟨w.heap.size + 1, 3 + i, none⟩)) rfl (by kernel_rfl) (by kernel_rfl) (by kernel_rfl) (fun _ _ _ h => h) (.inl ⟨by rfl, fun wx _ => by go_simp⟩) hS ?_
      simp only [Act.put]
      refine wpAnyH_take (i := 7) (v := .slice ai' li ci') rfl (by kernel_rfl) (by kernel_rfl) (by kernel_rfl) (fun _ _ _ h => h) (.inl ⟨by rfl, fun wx hX => by obtain ⟨s0, s1⟩ := SK.out wx hX; go_simp⟩) hS ?_
      simp only [Act.put]
      clear hS
      refine wpAnyH_ready (rs := [8]) (by kernel_rfl) (by simp) ?_
      refine AllReadyH.cons rfl (fun K hK => ?_) AllReadyH.nil
      go_simp
      refine (FC.out _ (Fr.refl [] wr).drew).mono ?_
      rintro r w3 ⟨rfl, f3⟩
      have F3 := hid ((Fr.refl [] wr).drew.trans f3)
      refine hK.out _ _ F3.out (fun hS => ?_)
      clear hK K f3
      refine wpAnyH_take (i := 9) (v := .bool false) rfl (by kernel_rfl) (by kernel_rfl) (by kernel_rfl) (fun _ _ _ h => h) (.inl ⟨by rfl, fun wx _ => by go_simp⟩) hS ?_
      simp only [Act.put]
      clear hS
      refine wpAnyH_done (by kernel_rfl) ?_ _
      go_wp2_with fail
      go_roundw
      case rel => exact ⟨i + 1, by omega, by go_num, HF.out.trans F3.out⟩
      case measure => simp [intOf]; omega
    · have hge : ¬ (i : Int) < 5 := by omega
      go_wp2_with fail
      go_ret
      exact ⟨rfl, F0.out.trans HF.out⟩
end Go.Proofs.YtegbngbhmgbocaaGreatDoor
namespace Go.Proofs.YtegbngbhmgbocaaGreatDoor
open Go.ChangeShapes Go.WideShapes Go.ChangeAt Go.RowKit

theorem size46 : (Tryz.prog.info? 28).map (·.size) = some 8 := by kernel_rfl
theorem load46 {w : World} {g : Nat} {t : TypeId} (hg : w.heap[g]? = some (.cells #[.int .i64 0, .int .i64 0, .int .u64 0, .slice none 0 0, .slice none 0 0, .slice none 0 0, .slice none 0 0, .slice none 0 0] t (0, 0))) : (loadVar 28 ⟨g, 0, none⟩).run Tryz.prog w = .ok (.agg #[.int .i64 0, .int .i64 0, .int .u64 0, .slice none 0 0, .slice none 0 0, .slice none 0 0, .slice none 0 0, .slice none 0 0]) w :=
  run_loadVar_row w g t 28 #[.int .i64 0, .int .i64 0, .int .u64 0, .slice none 0 0, .slice none 0 0, .slice none 0 0, .slice none 0 0, .slice none 0 0] (0, 0) _ hg Tryz.underlying28 rfl size46
/-- The boxes of follow and Apply. -/
structure Ai (w : World) (b : Nat) (wr : World) : Prop where
  n0 : wr.heap[w.heap.size]? = some (.cells #[.int .i64 0, .int .i64 0, .int .u64 0, .slice none 0 0, .slice none 0 0, .slice none 0 0, .slice none 0 0, .slice none 0 0] 28 (0, 0))
  n1 : wr.heap[w.heap.size + 1]? = some (.cells #[.int .i64 0, .int .i64 5, .int .u64 0, .slice (some ⟨b, 0, none⟩) 1 1, .slice none 0 0] 41 (0, 0))
  n2 : wr.heap[w.heap.size + 1 + 1]? = some (.cells #[.int .i64 0, .int .i64 0, .int .u64 0, .slice none 0 0, .slice none 0 0, .slice none 0 0, .slice none 0 0, .slice none 0 0] 28 (0, 0))
  fr : Fr [] w wr
theorem Ai.fr' {w wr W : World} {b : Nat} (h : Ai w b wr) (f : Fr [] wr W) : Ai w b W := ⟨f.at h.n0 (by simp), f.at h.n1 (by simp), f.at h.n2 (by simp), h.fr.trans f⟩
theorem Ai.new (w : World) (b : Nat) : Ai w b (((w.alloc (.cells #[.int .i64 0, .int .i64 0, .int .u64 0, .slice none 0 0, .slice none 0 0, .slice none 0 0, .slice none 0 0, .slice none 0 0] 28)).alloc (.cells #[.int .i64 0, .int .i64 5, .int .u64 0, .slice (some ⟨b, 0, none⟩) 1 1, .slice none 0 0] 41)).alloc (.cells #[.int .i64 0, .int .i64 0, .int .u64 0, .slice none 0 0, .slice none 0 0, .slice none 0 0, .slice none 0 0, .slice none 0 0] 28)) :=
  ⟨(((Fr.refl [] _).alloc _).alloc _).at (blk_new _ _) (by simp), ((Fr.refl [] _).alloc _).at (new_at _ _ (by simp)) (by simp), new_at _ _ (by simp), (((Fr.refl _ _).alloc _).alloc _).alloc _⟩
theorem ed_cells {W : World} {b k : Nat} (n : W.heap[k]? = some (.cells #[.int .i64 0, .int .i64 5, .int .u64 0, .slice (some ⟨b, 0, none⟩) 1 1, .slice none 0 0] 41 (0, 0))) : W.cell? ⟨k, 0, none⟩ = some (.int .i64 0) ∧ W.cell? ⟨k, 1, none⟩ = some (.int .i64 5) ∧ W.cell? ⟨k, 2, none⟩ = some (.int .u64 0) ∧ W.cell? ⟨k, 3, none⟩ = some (.slice (some ⟨b, 0, none⟩) 1 1) ∧ W.cell? ⟨k, 4, none⟩ = some (.slice none 0 0) :=
  ⟨by rw [blk_cell n]; rfl, by rw [blk_cell n]; rfl, by rw [blk_cell n]; rfl, by rw [blk_cell n]; rfl, by rw [blk_cell n]; rfl⟩
set_option maxRecDepth 20000 in
set_option maxHeartbeats 3200000 in
theorem follow0_c (w : World) (b : Nat) (hb : w.heap[b]? = some (.cells #[.int .i64 0, .int .i64 1] 45 (0, 0))) : Calls Tryz.prog 12 #[.agg #[.int .i64 0, .int .i64 0, .int .u64 0, .slice none 0 0, .slice none 0 0, .slice none 0 0, .slice none 0 0, .slice none 0 0], .agg #[.int .i64 0, .int .i64 5, .int .u64 0, .slice (some ⟨b, 0, none⟩) 1 1, .slice none 0 0]] w fun r w' => r = .returned (.tuple #[.agg #[.int .i64 0, .int .i64 0, .int .u64 0, .slice none 0 0, .slice none 0 0, .slice none 0 0, .slice none 0 0, .slice none 0 0], .int .i64 91]) ∧ Fr [] w w' := by
  obtain ⟨W0, hW0⟩ : ∃ W0, W0 = ((w.alloc (.cells #[.int .i64 0, .int .i64 0, .int .u64 0, .slice none 0 0, .slice none 0 0, .slice none 0 0, .slice none 0 0, .slice none 0 0] 28)).alloc (.cells #[.int .i64 0, .int .i64 5, .int .u64 0, .slice (some ⟨b, 0, none⟩) 1 1, .slice none 0 0] 41)).alloc (.cells #[.int .i64 0, .int .i64 0, .int .u64 0, .slice none 0 0, .slice none 0 0, .slice none 0 0, .slice none 0 0, .slice none 0 0] 28) := ⟨_, rfl⟩
  have I0 : Hid (Ai w b W0) := hid (by rw [hW0]; exact Ai.new w b)
  have WO := hid (without0_c W0 b (I0.out.fr.at hb (by simp)))
  clear hb
  obtain ⟨z0, z1, z2, z3, z4, z5, z6, z7⟩ := vz_cells I0.out.n0
  obtain ⟨x0, x1, x2, x3, x4⟩ := ed_cells I0.out.n1
  go_enter Tryz.func12, Tryz.ntmps12
  go_upto_region 1 with fail
  rw [← hW0]
  clear hW0
  go_upto_region 2 with (go_at_call 31; refine WO.out.mono ?_; rintro r W1 ⟨rfl, f1⟩; have F1 := hid f1; clear f1)
  clear z0 z1 z2 z3 z4 z5 z6 z7 x0 x1 x2 x3 x4 WO
  obtain ⟨W2, hW2⟩ : ∃ W2, W2 = W1.alloc (.cells #[.slice none 0 0, .slice none 0 0, .slice none 0 0, .slice none 0 0, .slice none 0 0] 26) := ⟨_, rfl⟩
  have I2 := hid ((I0.out.fr' F1.out).fr' (W := W2) (by rw [hW2]; exact (Fr.refl _ _).alloc _))
  rw [← hW2]
  clear hW2 I0 F1
  obtain ⟨z0, z1, z2, z3, z4, z5, z6, z7⟩ := vz_cells I2.out.n2
  have qf0 := blk_frozen I2.out.n2 0
  have qf1 := blk_frozen I2.out.n2 1
  have qf2 := blk_frozen I2.out.n2 2
  have qf3 := blk_frozen I2.out.n2 3
  have qf4 := blk_frozen I2.out.n2 4
  have qf5 := blk_frozen I2.out.n2 5
  have qf6 := blk_frozen I2.out.n2 6
  have qf7 := blk_frozen I2.out.n2 7
  go_wp2_with fail
  refine bodyPost_ret (ret_ct9 rfl (g := w.heap.size + 1 + 1) (by simp) (load46 (by rw [blk_set (blk_set (blk_set (blk_set (blk_set (blk_set (blk_set (blk_set I2.out.n2 0 _) 1 _) 2 _) 3 _) 4 _) 5 _) 6 _) 7 _]; rfl))) rfl ?_
  exact ⟨rfl, ((((((((I2.out.fr.set _ _ (.inr (by omega))).set _ _ (.inr (by omega))).set _ _ (.inr (by omega))).set _ _ (.inr (by omega))).set _ _ (.inr (by omega))).set _ _ (.inr (by omega))).set _ _ (.inr (by omega))).set _ _ (.inr (by omega)))⟩
set_option maxRecDepth 20000 in
set_option maxHeartbeats 3200000 in
theorem apply0_c (w : World) (b : Nat) (hb : w.heap[b]? = some (.cells #[.int .i64 0, .int .i64 1] 45 (0, 0))) : Calls Tryz.prog 9 #[.agg #[.int .i64 0, .int .i64 0, .int .u64 0, .slice none 0 0, .slice none 0 0, .slice none 0 0, .slice none 0 0, .slice none 0 0], .agg #[.int .i64 0, .int .i64 5, .int .u64 0, .slice (some ⟨b, 0, none⟩) 1 1, .slice none 0 0]] w fun r w' => r = .returned (.tuple #[.agg #[.int .i64 0, .int .i64 0, .int .u64 0, .slice none 0 0, .slice none 0 0, .slice none 0 0, .slice none 0 0, .slice none 0 0], .int .i64 91]) ∧ Fr [] w w' := by
  obtain ⟨W0, hW0⟩ : ∃ W0, W0 = ((w.alloc (.cells #[.int .i64 0, .int .i64 0, .int .u64 0, .slice none 0 0, .slice none 0 0, .slice none 0 0, .slice none 0 0, .slice none 0 0] 28)).alloc (.cells #[.int .i64 0, .int .i64 5, .int .u64 0, .slice (some ⟨b, 0, none⟩) 1 1, .slice none 0 0] 41)).alloc (.cells #[.int .i64 0, .int .i64 0, .int .u64 0, .slice none 0 0, .slice none 0 0, .slice none 0 0, .slice none 0 0, .slice none 0 0] 28) := ⟨_, rfl⟩
  have I0 : Hid (Ai w b W0) := hid (by rw [hW0]; exact Ai.new w b)
  have HB := hid hb
  have CK := hid (check0_c W0)
  have ED : Hid (∀ W, Fr [] w W → Calls Tryz.prog 17 #[.agg #[.int .i64 0, .int .i64 5, .int .u64 0, .slice (some ⟨b, 0, none⟩) 1 1, .slice none 0 0]] W fun r w' => r = .returned (.bool true) ∧ Fr [] W w') := hid (fun W fr => by
    have hb' := fr.at HB.out (by simp)
    have h1 := edit_c W (e := ⟨0, 5, 0, [(0, 1)], []⟩) (da := some ⟨b, 0, none⟩) (dc := 1) (aa := none) (ac := 0) ⟨⟨_, _, rfl, fun _ => ⟨b, 0, rfl, fun j g hj => by
      cases j with
      | zero => simp at hj; subst hj; exact ⟨by rw [Nat.zero_mul, blk_cell hb']; rfl, by rw [Nat.zero_mul, blk_cell hb']; rfl⟩
      | succ j => simp at hj⟩⟩, ⟨none, 0, rfl, fun h => by simp at h⟩, by simp, by simp⟩
    have hk : okE ⟨0, 5, 0, [(0, 1)], []⟩ = true := by decide
    rw [hk] at h1
    exact h1)
  clear hb
  obtain ⟨z0, z1, z2, z3, z4, z5, z6, z7⟩ := vz_cells I0.out.n0
  go_enter Tryz.func9, Tryz.ntmps9
  go_upto_region 1 with fail
  rw [← hW0]
  clear hW0
  go_upto_region 4 with (go_at_call 21; refine CK.out.mono ?_; rintro r W1 ⟨rfl, f1⟩; have I1 := hid (I0.out.fr' f1); clear f1)
  clear z0 z1 z2 z3 z4 z5 z6 z7 I0 CK
  obtain ⟨x0, x1, x2, x3, x4⟩ := ed_cells I1.out.n1
  have ED1 := hid (ED.out W1 I1.out.fr)
  go_upto_region 6 with (go_at_call 17; refine ED1.out.mono ?_; rintro r W2 ⟨rfl, f2⟩; have I2 := hid (I1.out.fr' f2); clear f2)
  clear x0 x1 x2 x3 x4 I1 ED1 ED
  obtain ⟨z0, z1, z2, z3, z4, z5, z6, z7⟩ := vz_cells I2.out.n0
  obtain ⟨x0, x1, x2, x3, x4⟩ := ed_cells I2.out.n1
  have FO := hid (follow0_c W2 b (I2.out.fr.at HB.out (by simp)))
  go_upto_region 7 with (go_at_call 12; refine FO.out.mono ?_; rintro r W3 ⟨rfl, f3⟩; have I3 := hid (I2.out.fr' f3); clear f3)
  clear z0 z1 z2 z3 z4 z5 z6 z7 x0 x1 x2 x3 x4 FO I2
  obtain ⟨W4, hW4⟩ : ∃ W4, W4 = W3.alloc (.cells #[.int .i64 0, .int .i64 0, .int .u64 0, .slice none 0 0, .slice none 0 0, .slice none 0 0, .slice none 0 0, .slice none 0 0] 28) := ⟨_, rfl⟩
  have I4 := hid (I3.out.fr' (W := W4) (by rw [hW4]; exact (Fr.refl _ _).alloc _))
  rw [← hW4]
  clear hW4 I3
  obtain ⟨z0, z1, z2, z3, z4, z5, z6, z7⟩ := vz_cells I4.out.n2
  have qf0 := blk_frozen I4.out.n2 0
  have qf1 := blk_frozen I4.out.n2 1
  have qf2 := blk_frozen I4.out.n2 2
  have qf3 := blk_frozen I4.out.n2 3
  have qf4 := blk_frozen I4.out.n2 4
  have qf5 := blk_frozen I4.out.n2 5
  have qf6 := blk_frozen I4.out.n2 6
  have qf7 := blk_frozen I4.out.n2 7
  go_wp2_with fail
  refine bodyPost_ret (ret_ct9 rfl (g := w.heap.size + 1 + 1) (by simp) (load46 (by rw [blk_set (blk_set (blk_set (blk_set (blk_set (blk_set (blk_set (blk_set I4.out.n2 0 _) 1 _) 2 _) 3 _) 4 _) 5 _) 6 _) 7 _]; rfl))) rfl ?_
  exact ⟨rfl, ((((((((I4.out.fr.set _ _ (.inr (by omega))).set _ _ (.inr (by omega))).set _ _ (.inr (by omega))).set _ _ (.inr (by omega))).set _ _ (.inr (by omega))).set _ _ (.inr (by omega))).set _ _ (.inr (by omega))).set _ _ (.inr (by omega)))⟩
theorem enc12 : encE ⟨1, 2, 0, [], []⟩ = [1, 2, 0, 0, 0] := by decide
set_option maxRecDepth 20000 in
set_option maxHeartbeats 3200000 in
theorem known9_c (w : World) : Calls Tryz.prog 4 #[] w fun r w' => r = .returned (.bool true) ∧ Fr [] w w' := by
  have EC := hid (enc_ok w (e := ⟨1, 2, 0, [], []⟩) (da := none) (dc := 0) (aa := none) (ac := 0) ⟨⟨none, 0, rfl, fun h => by simp at h⟩, ⟨none, 0, rfl, fun h => by simp at h⟩, by simp, by simp⟩ (by decide) (by simp) (by simp))
  rw [enc12] at EC
  simp only [List.length_nil, List.length_cons, Nat.zero_add, Nat.reduceAdd] at EC
  have AP : Hid (∀ (W : World) (b : Nat), W.heap[b]? = some (.cells #[.int .i64 0, .int .i64 1] 45 (0, 0)) → _) := hid (fun W b hb => apply0_c W b hb)
  go_enter Tryz.func4, Tryz.ntmps4
  go_upto_region 2 with (go_at_call 8; refine EC.out.mono ?_; rintro r W1 ⟨v1, rfl, o1, f1⟩; obtain ⟨a1, c1, hv1, _⟩ := ownsRow_slice o1; subst hv1; have F1 := hid f1; have O1 := hid (Rd.ownB (ns := [1, 2, 0, 0, 0]) o1); clear f1 o1)
  clear EC
  have APW := hid (AP.out (W1.alloc (.cells #[.int .i64 0, .int .i64 1] 45)) W1.heap.size (blk_new _ _))
  have FA : Hid (Fr [] W1 (W1.alloc (.cells #[.int .i64 0, .int .i64 1] 45))) := hid ((Fr.refl _ _).alloc _)
  clear AP
  go_upto_region 3 with (go_at_call 9; refine APW.out.mono ?_; rintro r W2 ⟨rfl, f2⟩; have F2 := hid (FA.out.trans f2); clear f2)
  obtain ⟨W3, hW3⟩ : ∃ W3, W3 = W2.alloc (.cells #[.int .i64 0, .int .i64 0, .int .u64 0, .slice none 0 0, .slice none 0 0, .slice none 0 0, .slice none 0 0, .slice none 0 0] 28) := ⟨_, rfl⟩
  have F3 := hid (F2.out.trans (c := W3) (by rw [hW3]; exact (Fr.refl _ _).alloc _))
  rw [← hW3]
  clear hW3 APW FA F2
  have hcv := run_conv (O1.out.fr F3.out)
  have hst : (strOf [1, 2, 0, 0, 0]) = ⟨#[1, 2, 0, 0, 0]⟩ := by decide
  rw [hst] at hcv
  go_wp2
  go_ret
  exact ⟨rfl, F1.out.trans F3.out⟩
end Go.Proofs.YtegbngbhmgbocaaGreatDoor
