/-
  The law of the bytes of an edit, walked behind known.
-/
import Derived.Test.YtmhhdlcdfgahkaaDoorJ33
import Derived.Test.YtmhhdlcdfgahkaaDoorJ09
import Derived.Deep.RegionHeld
namespace Go.Proofs.YtmhhdlcdfgahkaaDoor
open Go.ChangeShapes Go.WideShapes Go.ChangeAt Go.RowKit

set_option maxRecDepth 20000 in
theorem few9_c (w : World) {lg nx sq : Int} {da aa : Option Addr} {dl al dc ac : Nat} :
    Calls Tryd.prog 5 #[.agg #[.int .i64 lg, .int .i64 nx, .int .u64 sq, .slice da dl dc, .slice aa al ac]] w fun r w' => r = .returned (.bool (decide (dl ≤ 30) && decide (al ≤ 30))) ∧ Fr [] w w' := by
  obtain ⟨W0, hW0⟩ : ∃ W0, W0 = w.alloc (.cells #[.int .i64 lg, .int .i64 nx, .int .u64 sq, .slice da dl dc, .slice aa al ac] 34) := ⟨_, rfl⟩
  have F0 : Hid (Fr [] w W0) := hid (by rw [hW0]; exact (Fr.refl _ _).alloc _)
  have n0 : W0.heap[w.heap.size]? = some (.cells #[.int .i64 lg, .int .i64 nx, .int .u64 sq, .slice da dl dc, .slice aa al ac] 34 (0, 0)) := by rw [hW0]; exact blk_new _ _
  have z3 : W0.cell? ⟨w.heap.size, 3, none⟩ = some (.slice da dl dc) := by rw [blk_cell n0]; rfl
  have z4 : W0.cell? ⟨w.heap.size, 4, none⟩ = some (.slice aa al ac) := by rw [blk_cell n0]; rfl
  clear n0
  by_cases h1 : dl ≤ 30
  · have h1' : (dl : Int) ≤ 30 := by omega
    by_cases h2 : al ≤ 30
    · have h2' : (al : Int) ≤ 30 := by omega
      rw [decide_eq_true h1, decide_eq_true h2]
      go_enter Tryd.func5, Tryd.ntmps5
      go_upto_region 1 with fail
      rw [← hW0]
      clear hW0
      go_wp2
      go_ret
      exact ⟨rfl, F0.out⟩
    · have h2' : ¬ (al : Int) ≤ 30 := by omega
      rw [decide_eq_true h1, decide_eq_false h2]
      go_enter Tryd.func5, Tryd.ntmps5
      go_upto_region 1 with fail
      rw [← hW0]
      clear hW0
      go_wp2
      go_ret
      exact ⟨rfl, F0.out⟩
  · have h1' : ¬ (dl : Int) ≤ 30 := by omega
    rw [decide_eq_false h1, Bool.false_and]
    go_enter Tryd.func5, Tryd.ntmps5
    go_upto_region 1 with fail
    rw [← hW0]
    clear hW0
    go_wp2
    go_ret
    exact ⟨rfl, F0.out⟩
end Go.Proofs.YtmhhdlcdfgahkaaDoor
namespace Go.Proofs.YtmhhdlcdfgahkaaDoor
open Go.ChangeShapes Go.WideShapes Go.ChangeAt Go.RowKit

set_option maxRecDepth 20000 in
set_option maxHeartbeats 1600000 in
theorem fileSame_c (w : World) {f : Fl} {la ma la' ma' : Option Addr} {lc mc lc' mc' : Nat} (h1 : FRd w f la lc ma mc) (h2 : FRd w f la' lc' ma' mc') :
    Calls Tryd.prog 43 #[.agg #[.int .i64 f.num, .int .i64 f.size, .slice la f.least.length lc, .slice ma f.most.length mc], .agg #[.int .i64 f.num, .int .i64 f.size, .slice la' f.least.length lc', .slice ma' f.most.length mc']] w fun r w' => r = .returned (.bool true) ∧ Fr [] w w' := by
  obtain ⟨W, hW⟩ : ∃ W, W = (w.alloc (.cells #[.int .i64 f.num, .int .i64 f.size, .slice la f.least.length lc, .slice ma f.most.length mc] 53)).alloc (.cells #[.int .i64 f.num, .int .i64 f.size, .slice la' f.least.length lc', .slice ma' f.most.length mc'] 53) := ⟨_, rfl⟩
  have F : Hid (Fr [] w W) := hid (by rw [hW]; exact ((Fr.refl _ w).alloc _).alloc _)
  have A : Hid (W.heap[w.heap.size]? = some (.cells #[.int .i64 f.num, .int .i64 f.size, .slice la f.least.length lc, .slice ma f.most.length mc] 53 (0, 0))) := hid (by rw [hW, blk_old _ _ (by simp)]; exact blk_new _ _)
  have B : Hid (W.heap[w.heap.size + 1]? = some (.cells #[.int .i64 f.num, .int .i64 f.size, .slice la' f.least.length lc', .slice ma' f.most.length mc'] 53 (0, 0))) := hid (by rw [hW]; exact new_at _ _ (by simp))
  have a0 := blk_cell A.out 0
  have a1 := blk_cell A.out 1
  have a2 := blk_cell A.out 2
  have a3 := blk_cell A.out 3
  have b0 := blk_cell B.out 0
  have b1 := blk_cell B.out 1
  have b2 := blk_cell B.out 2
  have b3 := blk_cell B.out 3
  simp at a0 a1 a2 a3 b0 b1 b2 b3
  have e1 := run_conv (h1.rl.fr F.out)
  have e2 := run_conv (h1.rm.fr F.out)
  have e3 := run_conv (h2.rl.fr F.out)
  have e4 := run_conv (h2.rm.fr F.out)
  have s1 : ((strOf f.least).toList == (strOf f.least).toList) = true := by simp
  have s2 : ((strOf f.most).toList == (strOf f.most).toList) = true := by simp
  have n1 : (f.num == f.num) = true := by simp
  have n2 : (f.size == f.size) = true := by simp
  clear h1 h2
  generalize strOf f.least = x1 at *
  generalize strOf f.most = x2 at *
  generalize f.least.length = y1 at *
  generalize f.most.length = y2 at *
  generalize f.num = u1 at *
  generalize f.size = u2 at *
  go_enter Tryd.func43, Tryd.ntmps43
  go_upto_region 1 with fail
  rw [← hW]
  clear hW
  go_wp2
  go_ret
  exact ⟨rfl, F.out⟩

end Go.Proofs.YtmhhdlcdfgahkaaDoor
namespace Go.Proofs.YtmhhdlcdfgahkaaDoor
open Go.ChangeShapes Go.WideShapes Go.ChangeAt Go.RowKit

/-- Few tables in each level. -/
def smallV (ln : Nat → Nat) : Prop := ∀ i, i < 5 → ln i ≤ 20
structure SOut (w w' : World) (ln : Nat → Nat) (r : Ending) : Prop where
  fr : Fr [] w w'
  out : ∃ bb : Bool, r = .returned (.bool bb) ∧ (bb = true ↔ smallV ln)
theorem cell5 {W : World} {k : Nat} {t : TypeId} {c0 c1 c2 : Value} {ad : Nat → Option Addr} {ln cp : Nat → Nat} (n : W.heap[k]? = some (.cells #[c0, c1, c2, .slice (ad 0) (ln 0) (cp 0), .slice (ad 1) (ln 1) (cp 1), .slice (ad 2) (ln 2) (cp 2), .slice (ad 3) (ln 3) (cp 3), .slice (ad 4) (ln 4) (cp 4)] t (0, 0))) {i : Nat} (hi : i < 5) : W.cell? ⟨k, 3 + i, none⟩ = some (.slice (ad i) (ln i) (cp i)) := by
  rw [blk_cell n]
  rcases (show i = 0 ∨ i = 1 ∨ i = 2 ∨ i = 3 ∨ i = 4 from by omega) with rfl | rfl | rfl | rfl | rfl <;> rfl
set_option maxRecDepth 20000 in
set_option maxHeartbeats 3200000 in
theorem files_c (w : World) {fs : List Fl} {a a' : Option Addr} {n c c' : Nat} (hn : n = fs.length) (hl : n ≤ 140737488355328) (h1 : RdF w a n fs) (h2 : RdF w a' n fs) :
    Calls Tryd.prog 21 #[.slice a n c, .slice a' n c'] w fun r w' => r = .returned (.bool true) ∧ Fr [] w w' := by
  have HN := hid hn
  have H1 := hid h1
  have H2 := hid h2
  have hnn : ((n : Int) == (n : Int)) = true := by simp
  clear hn h1 h2
  go_enter Tryd.func21, Tryd.ntmps21
  go_wp2_with fail
  go_loopw [5] (fun v5 wr => ∃ i : Nat, i ≤ n ∧ v5 = .int .i64 (i : Int) ∧ Fr [] w wr) (fun v5 _ => n - (intOf v5).toNat)
  case atStart => exact ⟨0, by omega, rfl, Fr.refl _ _⟩
  case round =>
    obtain ⟨i, hi, rfl, hf⟩ := hrel
    have HF := hid hf
    clear hf
    by_cases hlt : i < n
    · have hlt' : (i : Int) < (n : Int) := by omega
      obtain ⟨f, hf⟩ : ∃ f, fs[i]? = some f := ⟨_, List.getElem?_eq_getElem (by rw [← HN.out]; exact hlt)⟩
      obtain ⟨b, o, hb, m1⟩ := H1.out (by omega)
      obtain ⟨b', o', hb', m2⟩ := H2.out (by omega)
      subst hb
      subst hb'
      obtain ⟨la, lc, ma, mc, k1⟩ := m1 i f hf
      obtain ⟨la', lc', ma', mc', k2⟩ := m2 i f hf
      clear m1 m2 hf
      have SK : Hid (∀ W', Fr [] wr W' → (W'.cell? ⟨b, o + i * 4, none⟩ = some (.int .i64 f.num) ∧ W'.cell? ⟨b, o + i * 4 + 1, none⟩ = some (.int .i64 f.size) ∧ W'.cell? ⟨b, o + i * 4 + 2, none⟩ = some (.slice la f.least.length lc) ∧ W'.cell? ⟨b, o + i * 4 + 3, none⟩ = some (.slice ma f.most.length mc)) ∧ W'.cell? ⟨b', o' + i * 4, none⟩ = some (.int .i64 f.num) ∧ W'.cell? ⟨b', o' + i * 4 + 1, none⟩ = some (.int .i64 f.size) ∧ W'.cell? ⟨b', o' + i * 4 + 2, none⟩ = some (.slice la' f.least.length lc') ∧ W'.cell? ⟨b', o' + i * 4 + 3, none⟩ = some (.slice ma' f.most.length mc')) := hid (fun W' g => by
        have ff := HF.out.trans g
        exact ⟨⟨cell_fr ff k1.c0, cell_fr ff k1.c1, cell_fr ff k1.c2, cell_fr ff k1.c3⟩, cell_fr ff k2.c0, cell_fr ff k2.c1, cell_fr ff k2.c2, cell_fr ff k2.c3⟩)
      have FC : Hid (∀ W', Fr [] wr W' → _) := hid (fun W' g => fileSame_c W' (k1.rd.fr (HF.out.trans g)) (k2.rd.fr (HF.out.trans g)))
      clear k1 k2
      go_upto_region 6 with fail
      refine wp_region_held_drew (S := fun w' => Fr [] wr w') (by kernel_rfl) (Fr.refl [] wr).drew (fun hS => ?_)
      refine wpAnyH_take (i := 0) (v := .slice (some ⟨b, o, none⟩) n c) rfl (by kernel_rfl) (by kernel_rfl) (by kernel_rfl) (fun _ _ _ h => h) (.inl ⟨by rfl, fun wx _ => by go_simp⟩) hS ?_
      simp only [Act.put]
      refine wpAnyH_take (i := 1) (v := .int .i64 (i : Int)) rfl (by kernel_rfl) (by kernel_rfl) (by kernel_rfl) (fun _ _ _ h => h) (.inl ⟨by rfl, fun wx _ => by go_simp⟩) hS ?_
      simp only [Act.put]
      refine wpAnyH_take (i := 2) (v := .pointer (some ⟨b, o + i * 4, none⟩)) rfl (by kernel_rfl) (by kernel_rfl) (by kernel_rfl) (fun _ _ _ h => h) (.inl ⟨by rfl, fun wx _ => by go_simp⟩) hS ?_
      simp only [Act.put]
      refine wpAnyH_take (i := 3) (v := .agg #[.int .i64 f.num, .int .i64 f.size, .slice la f.least.length lc, .slice ma f.most.length mc]) rfl (by kernel_rfl) (by kernel_rfl) (by kernel_rfl) (fun _ _ _ h => h) (.inl ⟨by rfl, fun wx hX => by obtain ⟨⟨s0, s1, s2, s3⟩, s4, s5, s6, s7⟩ := SK.out wx hX; go_simp⟩) hS ?_
      simp only [Act.put]
      refine wpAnyH_take (i := 4) (v := .slice (some ⟨b', o', none⟩) n c') rfl (by kernel_rfl) (by kernel_rfl) (by kernel_rfl) (fun _ _ _ h => h) (.inl ⟨by rfl, fun wx _ => by go_simp⟩) hS ?_
      simp only [Act.put]
      refine wpAnyH_take (i := 5) (v := .int .i64 (i : Int)) rfl (by kernel_rfl) (by kernel_rfl) (by kernel_rfl) (fun _ _ _ h => h) (.inl ⟨by rfl, fun wx _ => by go_simp⟩) hS ?_
      simp only [Act.put]
      refine wpAnyH_take (i := 6) (v := .pointer (some ⟨b', o' + i * 4, none⟩)) rfl (by kernel_rfl) (by kernel_rfl) (by kernel_rfl) (fun _ _ _ h => h) (.inl ⟨by rfl, fun wx _ => by go_simp⟩) hS ?_
      simp only [Act.put]
      refine wpAnyH_take (i := 7) (v := .agg #[.int .i64 f.num, .int .i64 f.size, .slice la' f.least.length lc', .slice ma' f.most.length mc']) rfl (by kernel_rfl) (by kernel_rfl) (by kernel_rfl) (fun _ _ _ h => h) (.inl ⟨by rfl, fun wx hX => by obtain ⟨⟨s0, s1, s2, s3⟩, s4, s5, s6, s7⟩ := SK.out wx hX; go_simp⟩) hS ?_
      simp only [Act.put]
      clear hS
      refine wpAnyH_ready (rs := [8]) (by kernel_rfl) (by simp) ?_
      refine AllReadyH.cons rfl (fun K hK => ?_) AllReadyH.nil
      go_simp
      refine (FC.out _ (Fr.refl [] wr).drew).mono ?_
      rintro r w3 ⟨rfl, f3⟩
      have F3 := hid ((Fr.refl [] wr).drew.trans f3)
      refine hK.out _ _ F3.out (fun hS => ?_)
      clear hK K f3
      refine wpAnyH_take (i := 9) (v := .bool false) rfl (by kernel_rfl) (by kernel_rfl) (by kernel_rfl) (fun _ _ _ h => h) (.inl ⟨by rfl, fun wx _ => by go_simp⟩) hS ?_
      simp only [Act.put]
      clear hS
      refine wpAnyH_done (by kernel_rfl) ?_ _
      go_wp2_with fail
      go_roundw
      case rel => exact ⟨i + 1, by omega, by go_num, HF.out.trans F3.out⟩
      case measure => simp [intOf]; omega
    · have hge : ¬ (i : Int) < (n : Int) := by omega
      go_wp2_with fail
      go_ret
      exact ⟨rfl, HF.out⟩
set_option maxRecDepth 20000 in
set_option maxHeartbeats 3200000 in
theorem version_c (w : World) (lg nx : Int) (sq : Nat) {L : Nat → List Fl} {ad ad' : Nat → Option Addr} {ln cp cp' : Nat → Nat} (h1 : VAt w L ad ln cp) (h2 : VAt w L ad' ln cp') :
    Calls Tryd.prog 10 #[.agg #[.int .i64 lg, .int .i64 nx, .int .u64 (sq : Int), .slice (ad 0) (ln 0) (cp 0), .slice (ad 1) (ln 1) (cp 1), .slice (ad 2) (ln 2) (cp 2), .slice (ad 3) (ln 3) (cp 3), .slice (ad 4) (ln 4) (cp 4)], .agg #[.int .i64 lg, .int .i64 nx, .int .u64 (sq : Int), .slice (ad' 0) (ln 0) (cp' 0), .slice (ad' 1) (ln 1) (cp' 1), .slice (ad' 2) (ln 2) (cp' 2), .slice (ad' 3) (ln 3) (cp' 3), .slice (ad' 4) (ln 4) (cp' 4)]] w fun r w' => r = .returned (.bool true) ∧ Fr [] w w' := by
  obtain ⟨W0, hW0⟩ : ∃ W0, W0 = (w.alloc (.cells #[.int .i64 lg, .int .i64 nx, .int .u64 (sq : Int), .slice (ad 0) (ln 0) (cp 0), .slice (ad 1) (ln 1) (cp 1), .slice (ad 2) (ln 2) (cp 2), .slice (ad 3) (ln 3) (cp 3), .slice (ad 4) (ln 4) (cp 4)] 28)).alloc (.cells #[.int .i64 lg, .int .i64 nx, .int .u64 (sq : Int), .slice (ad' 0) (ln 0) (cp' 0), .slice (ad' 1) (ln 1) (cp' 1), .slice (ad' 2) (ln 2) (cp' 2), .slice (ad' 3) (ln 3) (cp' 3), .slice (ad' 4) (ln 4) (cp' 4)] 28) := ⟨_, rfl⟩
  have F0 : Hid (Fr [] w W0) := hid (by rw [hW0]; exact ((Fr.refl _ _).alloc _).alloc _)
  have N0 : Hid (W0.heap[w.heap.size]? = some (.cells #[.int .i64 lg, .int .i64 nx, .int .u64 (sq : Int), .slice (ad 0) (ln 0) (cp 0), .slice (ad 1) (ln 1) (cp 1), .slice (ad 2) (ln 2) (cp 2), .slice (ad 3) (ln 3) (cp 3), .slice (ad 4) (ln 4) (cp 4)] 28 (0, 0))) := hid (by rw [hW0, blk_old _ _ (by simp)]; exact blk_new _ _)
  have N1 : Hid (W0.heap[w.heap.size + 1]? = some (.cells #[.int .i64 lg, .int .i64 nx, .int .u64 (sq : Int), .slice (ad' 0) (ln 0) (cp' 0), .slice (ad' 1) (ln 1) (cp' 1), .slice (ad' 2) (ln 2) (cp' 2), .slice (ad' 3) (ln 3) (cp' 3), .slice (ad' 4) (ln 4) (cp' 4)] 28 (0, 0))) := hid (by rw [hW0]; exact new_at _ _ (by simp))
  have H1 := hid (h1.fr F0.out)
  have H2 := hid (h2.fr F0.out)
  obtain ⟨z0, z1, z2, z3, z4, z5, z6, z7⟩ := vn_cells N0.out
  obtain ⟨x0, x1, x2, x3, x4, x5, x6, x7⟩ := vn_cells N1.out
  have e1 : (lg == lg) = true := by simp
  have e2 : (nx == nx) = true := by simp
  have e3 : ((sq : Int) == (sq : Int)) = true := by simp
  clear h1 h2
  go_enter Tryd.func10, Tryd.ntmps10
  go_upto_region 1 with fail
  rw [← hW0]
  clear hW0
  go_wp2_with fail
  clear z0 z1 z2 z3 z4 z5 z6 z7 x0 x1 x2 x3 x4 x5 x6 x7
  go_loopw [5] (fun v5 wr => ∃ i : Nat, i ≤ 5 ∧ v5 = .int .i64 (i : Int) ∧ Fr [] W0 wr) (fun v5 _ => 5 - (intOf v5).toNat)
  case atStart => exact ⟨0, by omega, rfl, Fr.refl _ _⟩
  case round =>
    obtain ⟨i, hi, rfl, hf⟩ := hrel
    have HF := hid hf
    clear hf
    by_cases hlt : i < 5
    · have hlt' : (i : Int) < 5 := by omega
      have SK : Hid (∀ W', Fr [] wr W' → W'.cell? ⟨w.heap.size, 3 + i, none⟩ = some (.slice (ad i) (ln i) (cp i)) ∧ W'.cell? ⟨w.heap.size + 1, 3 + i, none⟩ = some (.slice (ad' i) (ln i) (cp' i))) := hid (fun W' g => ⟨cell5 ((HF.out.trans g).at N0.out (by simp)) hlt, cell5 ((HF.out.trans g).at N1.out (by simp)) hlt⟩)
      have FC : Hid (∀ W', Fr [] wr W' → _) := hid (fun W' g => files_c W' (c := cp i) (c' := cp' i) (H1.out.len i hlt) (H1.out.small i hlt) (lev_fs (H1.out.fr (HF.out.trans g)) hlt) (lev_fs (H2.out.fr (HF.out.trans g)) hlt))
      generalize ad i = ai at *
      generalize ad' i = ai' at *
      generalize ln i = li at *
      generalize cp i = ci at *
      generalize cp' i = ci' at *
      go_upto_region 6 with fail
      refine wp_region_held_drew (S := fun w' => Fr [] wr w') (by kernel_rfl) (Fr.refl [] wr).drew (fun hS => ?_)
      refine wpAnyH_take (i := 0) (v := .int .i64 (i : Int)) rfl (by kernel_rfl) (by kernel_rfl) (by kernel_rfl) (fun _ _ _ h => h) (.inl ⟨by rfl, fun wx _ => by go_simp⟩) hS ?_
      simp only [Act.put]
      refine wpAnyH_take (i := 1) (v := .pointer (some ⟨w.heap.size, 3, none⟩)) rfl (by kernel_rfl) (by kernel_rfl) (by kernel_rfl) (fun _ _ _ h => h) (.inl ⟨by rfl, fun wx _ => by go_simp⟩) hS ?_
      simp only [Act.put]
      refine wpAnyH_take (i := 2) (v := .pointer (some ⟨w.heap.size, 3 + i, none⟩)) rfl (by kernel_rfl) (by kernel_rfl) (by kernel_rfl) (fun _ _ _ h => h) (.inl ⟨by rfl, fun wx _ => by go_simp⟩) hS ?_
      simp only [Act.put]
      refine wpAnyH_take (i := 3) (v := .slice ai li ci) rfl (by kernel_rfl) (by kernel_rfl) (by kernel_rfl) (fun _ _ _ h => h) (.inl ⟨by rfl, fun wx hX => by obtain ⟨s0, s1⟩ := SK.out wx hX; go_simp⟩) hS ?_
      simp only [Act.put]
      refine wpAnyH_take (i := 4) (v := .int .i64 (i : Int)) rfl (by kernel_rfl) (by kernel_rfl) (by kernel_rfl) (fun _ _ _ h => h) (.inl ⟨by rfl, fun wx _ => by go_simp⟩) hS ?_
      simp only [Act.put]
      refine wpAnyH_take (i := 5) (v := .pointer (some ⟨w.heap.size + 1, 3, none⟩)) rfl (by kernel_rfl) (by kernel_rfl) (by kernel_rfl) (fun _ _ _ h => h) (.inl ⟨by rfl, fun wx _ => by go_simp⟩) hS ?_
      simp only [Act.put]
      refine wpAnyH_take (i := 6) (v := .pointer (some ⟨w.heap.size + 1, 3 + i, none⟩)) rfl (by kernel_rfl) (by kernel_rfl) (by kernel_rfl) (fun _ _ _ h => h) (.inl ⟨by rfl, fun wx _ => by go_simp⟩) hS ?_
      simp only [Act.put]
      refine wpAnyH_take (i := 7) (v := .slice ai' li ci') rfl (by kernel_rfl) (by kernel_rfl) (by kernel_rfl) (fun _ _ _ h => h) (.inl ⟨by rfl, fun wx hX => by obtain ⟨s0, s1⟩ := SK.out wx hX; go_simp⟩) hS ?_
      simp only [Act.put]
      clear hS
      refine wpAnyH_ready (rs := [8]) (by kernel_rfl) (by simp) ?_
      refine AllReadyH.cons rfl (fun K hK => ?_) AllReadyH.nil
      go_simp
      refine (FC.out _ (Fr.refl [] wr).drew).mono ?_
      rintro r w3 ⟨rfl, f3⟩
      have F3 := hid ((Fr.refl [] wr).drew.trans f3)
      refine hK.out _ _ F3.out (fun hS => ?_)
      clear hK K f3
      refine wpAnyH_take (i := 9) (v := .bool false) rfl (by kernel_rfl) (by kernel_rfl) (by kernel_rfl) (fun _ _ _ h => h) (.inl ⟨by rfl, fun wx _ => by go_simp⟩) hS ?_
      simp only [Act.put]
      clear hS
      refine wpAnyH_done (by kernel_rfl) ?_ _
      go_wp2_with fail
      go_roundw
      case rel => exact ⟨i + 1, by omega, by go_num, HF.out.trans F3.out⟩
      case measure => simp [intOf]; omega
    · have hge : ¬ (i : Int) < 5 := by omega
      go_wp2_with fail
      go_ret
      exact ⟨rfl, F0.out.trans HF.out⟩
end Go.Proofs.YtmhhdlcdfgahkaaDoor
