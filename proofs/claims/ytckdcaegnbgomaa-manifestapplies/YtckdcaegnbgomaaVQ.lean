/-
  The statements' own: is a version looked at; are two the same?
-/
import Derived.Test.YtckdcaegnbgomaaJ26
import Derived.Test.YtckdcaegnbgomaaDM9
namespace Go.Proofs.Ytckdcaegnbgomaa
open Go.ChangeShapes Go.WideShapes Go.ChangeAt Go.RowKit

/-- Few tables in each level. -/
def smallV (ln : Nat → Nat) : Prop := ∀ i, i < 5 → ln i ≤ 20
structure SOut (w w' : World) (ln : Nat → Nat) (r : Ending) : Prop where
  fr : Fr [] w w'
  out : ∃ bb : Bool, r = .returned (.bool bb) ∧ (bb = true ↔ smallV ln)
theorem cell5 {W : World} {k : Nat} {t : TypeId} {c0 c1 c2 : Value} {ad : Nat → Option Addr} {ln cp : Nat → Nat} (n : W.heap[k]? = some (.cells #[c0, c1, c2, .slice (ad 0) (ln 0) (cp 0), .slice (ad 1) (ln 1) (cp 1), .slice (ad 2) (ln 2) (cp 2), .slice (ad 3) (ln 3) (cp 3), .slice (ad 4) (ln 4) (cp 4)] t (0, 0))) {i : Nat} (hi : i < 5) : W.cell? ⟨k, 3 + i, none⟩ = some (.slice (ad i) (ln i) (cp i)) := by
  rw [blk_cell n]
  rcases (show i = 0 ∨ i = 1 ∨ i = 2 ∨ i = 3 ∨ i = 4 from by omega) with rfl | rfl | rfl | rfl | rfl <;> rfl
set_option maxRecDepth 20000 in
set_option maxHeartbeats 1600000 in
theorem small_c (w : World) (lg nx : Int) (sq : Nat) (ad : Nat → Option Addr) (ln cp : Nat → Nat) (hl : ∀ i, i < 5 → ln i ≤ 140737488355328) :
    Calls Try.prog 8 #[.agg #[.int .i64 lg, .int .i64 nx, .int .u64 (sq : Int), .slice (ad 0) (ln 0) (cp 0), .slice (ad 1) (ln 1) (cp 1), .slice (ad 2) (ln 2) (cp 2), .slice (ad 3) (ln 3) (cp 3), .slice (ad 4) (ln 4) (cp 4)]] w fun r w' => SOut w w' ln r := by
  obtain ⟨W0, hW0⟩ : ∃ W0, W0 = w.alloc (.cells #[.int .i64 lg, .int .i64 nx, .int .u64 (sq : Int), .slice (ad 0) (ln 0) (cp 0), .slice (ad 1) (ln 1) (cp 1), .slice (ad 2) (ln 2) (cp 2), .slice (ad 3) (ln 3) (cp 3), .slice (ad 4) (ln 4) (cp 4)] 26) := ⟨_, rfl⟩
  have F0 : Hid (Fr [] w W0) := hid (by rw [hW0]; exact (Fr.refl _ _).alloc _)
  have N0 : Hid (W0.heap[w.heap.size]? = some (.cells #[.int .i64 lg, .int .i64 nx, .int .u64 (sq : Int), .slice (ad 0) (ln 0) (cp 0), .slice (ad 1) (ln 1) (cp 1), .slice (ad 2) (ln 2) (cp 2), .slice (ad 3) (ln 3) (cp 3), .slice (ad 4) (ln 4) (cp 4)] 26 (0, 0))) := hid (by rw [hW0]; exact blk_new _ _)
  have HL := hid hl
  clear hl
  go_enter Try.func8, Try.ntmps8
  go_upto_region 1 with fail
  rw [← hW0]
  clear hW0
  go_wp2_with fail
  go_loopw [3] (fun v3 wr => ∃ i : Nat, i ≤ 5 ∧ v3 = .int .i64 (i : Int) ∧ (∀ k, k < i → ln k ≤ 20) ∧ wr = W0) (fun v3 _ => 5 - (intOf v3).toNat)
  case atStart => exact ⟨0, by omega, rfl, fun k hk => by omega, rfl⟩
  case round =>
    obtain ⟨i, hi, rfl, hq, hwr⟩ := hrel
    subst hwr
    have HQ := hid hq
    clear hq
    by_cases hlt : i < 5
    · have hlt' : (i : Int) < 5 := by omega
      have z := cell5 N0.out hlt
      have hli := HL.out i hlt
      obtain ⟨li, hli'⟩ : ∃ li, li = ln i := ⟨_, rfl⟩
      have HLI := hid hli'
      rw [← hli'] at z hli
      clear hli'
      by_cases h20 : li ≤ 20
      · have h20' : ¬ (20 : Int) < (li : Int) := by omega
        go_wp2_with fail
        go_roundw
        case rel => exact ⟨i + 1, by omega, by go_num, fun k hk => by
          rcases Nat.lt_or_ge k i with h | h
          · exact HQ.out k h
          · rw [show k = i from by omega, ← HLI.out]; exact h20, trivial⟩
        case measure => simp [intOf]; omega
      · have h20' : (20 : Int) < (li : Int) := by omega
        go_wp2_with fail
        go_ret
        exact ⟨F0.out, false, rfl, fun h => (by cases h), fun h => (by have := h i hlt; rw [← HLI.out] at this; omega)⟩
    · have hin : i = 5 := by omega
      subst hin
      go_wp2_with fail
      go_ret
      exact ⟨F0.out, true, rfl, fun _ k hk => HQ.out k hk, fun _ => rfl⟩
set_option maxRecDepth 20000 in
set_option maxHeartbeats 3200000 in
theorem files_c (w : World) {fs : List Fl} {a a' : Option Addr} {n c c' : Nat} (hn : n = fs.length) (hl : n ≤ 140737488355328) (h1 : RdF w a n fs) (h2 : RdF w a' n fs) :
    Calls Try.prog 26 #[.slice a n c, .slice a' n c'] w fun r w' => r = .returned (.bool true) ∧ Fr [] w w' := by
  have HN := hid hn
  have H1 := hid h1
  have H2 := hid h2
  have hnn : ((n : Int) == (n : Int)) = true := by simp
  clear hn h1 h2
  go_enter Try.func26, Try.ntmps26
  go_wp2_with fail
  go_loopw [5] (fun v5 wr => ∃ i : Nat, i ≤ n ∧ v5 = .int .i64 (i : Int) ∧ Fr [] w wr) (fun v5 _ => n - (intOf v5).toNat)
  case atStart => exact ⟨0, by omega, rfl, Fr.refl _ _⟩
  case round =>
    obtain ⟨i, hi, rfl, hf⟩ := hrel
    have HF := hid hf
    clear hf
    by_cases hlt : i < n
    · have hlt' : (i : Int) < (n : Int) := by omega
      obtain ⟨f, hf⟩ : ∃ f, fs[i]? = some f := ⟨_, List.getElem?_eq_getElem (by rw [← HN.out]; exact hlt)⟩
      obtain ⟨b, o, hb, m1⟩ := H1.out (by omega)
      obtain ⟨b', o', hb', m2⟩ := H2.out (by omega)
      subst hb
      subst hb'
      obtain ⟨la, lc, ma, mc, k1⟩ := m1 i f hf
      obtain ⟨la', lc', ma', mc', k2⟩ := m2 i f hf
      clear m1 m2 hf
      have SK : Hid (∀ W', Fr [] wr W' → (W'.cell? ⟨b, o + i * 4, none⟩ = some (.int .i64 f.num) ∧ W'.cell? ⟨b, o + i * 4 + 1, none⟩ = some (.int .i64 f.size) ∧ W'.cell? ⟨b, o + i * 4 + 2, none⟩ = some (.slice la f.least.length lc) ∧ W'.cell? ⟨b, o + i * 4 + 3, none⟩ = some (.slice ma f.most.length mc)) ∧ W'.cell? ⟨b', o' + i * 4, none⟩ = some (.int .i64 f.num) ∧ W'.cell? ⟨b', o' + i * 4 + 1, none⟩ = some (.int .i64 f.size) ∧ W'.cell? ⟨b', o' + i * 4 + 2, none⟩ = some (.slice la' f.least.length lc') ∧ W'.cell? ⟨b', o' + i * 4 + 3, none⟩ = some (.slice ma' f.most.length mc')) := hid (fun W' g => by
        have ff := HF.out.trans g
        exact ⟨⟨cell_fr ff k1.c0, cell_fr ff k1.c1, cell_fr ff k1.c2, cell_fr ff k1.c3⟩, cell_fr ff k2.c0, cell_fr ff k2.c1, cell_fr ff k2.c2, cell_fr ff k2.c3⟩)
      have FC : Hid (∀ W', Fr [] wr W' → _) := hid (fun W' g => fileSame_c W' (k1.rd.fr (HF.out.trans g)) (k2.rd.fr (HF.out.trans g)))
      clear k1 k2
      go_upto_region 6 with fail
      refine wp_region_held_drew (S := fun w' => Fr [] wr w') (by kernel_rfl) (Fr.refl [] wr).drew (fun hS => ?_)
      refine wpAnyH_take (i := 0) (v := .slice (some ⟨b, o, none⟩) n c) rfl (by kernel_rfl) (by kernel_rfl) (by kernel_rfl) (fun _ _ _ h => h) (.inl ⟨by rfl, fun wx _ => by go_simp⟩) hS ?_
      simp only [Act.put]
      refine wpAnyH_take (i := 1) (v := .int .i64 (i : Int)) rfl (by kernel_rfl) (by kernel_rfl) (by kernel_rfl) (fun _ _ _ h => h) (.inl ⟨by rfl, fun wx _ => by go_simp⟩) hS ?_
      simp only [Act.put]
      refine wpAnyH_take (i := 2) (v := .pointer (some ⟨b, o + i * 4, none⟩)) rfl (by kernel_rfl) (by kernel_rfl) (by kernel_rfl) (fun _ _ _ h => h) (.inl ⟨by rfl, fun wx _ => by go_simp⟩) hS ?_
      simp only [Act.put]
      refine wpAnyH_take (i := 3) (v := .agg #[.int .i64 f.num, .int .i64 f.size, .slice la f.least.length lc, .slice ma f.most.length mc]) rfl (by kernel_rfl) (by kernel_rfl) (by kernel_rfl) (fun _ _ _ h => h) (.inl ⟨by rfl, fun wx hX => by obtain ⟨⟨s0, s1, s2, s3⟩, s4, s5, s6, s7⟩ := SK.out wx hX; go_simp⟩) hS ?_
      simp only [Act.put]
      refine wpAnyH_take (i := 4) (v := .slice (some ⟨b', o', none⟩) n c') rfl (by kernel_rfl) (by kernel_rfl) (by kernel_rfl) (fun _ _ _ h => h) (.inl ⟨by rfl, fun wx _ => by go_simp⟩) hS ?_
      simp only [Act.put]
      refine wpAnyH_take (i := 5) (v := .int .i64 (i : Int)) rfl (by kernel_rfl) (by kernel_rfl) (by kernel_rfl) (fun _ _ _ h => h) (.inl ⟨by rfl, fun wx _ => by go_simp⟩) hS ?_
      simp only [Act.put]
      refine wpAnyH_take (i := 6) (v := .pointer (some ⟨b', o' + i * 4, none⟩)) rfl (by kernel_rfl) (by kernel_rfl) (by kernel_rfl) (fun _ _ _ h => h) (.inl ⟨by rfl, fun wx _ => by go_simp⟩) hS ?_
      simp only [Act.put]
      refine wpAnyH_take (i := 7) (v := .agg #[.int .i64 f.num, .int .i64 f.size, .slice la' f.least.length lc', .slice ma' f.most.length mc']) rfl (by kernel_rfl) (by kernel_rfl) (by kernel_rfl) (fun _ _ _ h => h) (.inl ⟨by rfl, fun wx hX => by obtain ⟨⟨s0, s1, s2, s3⟩, s4, s5, s6, s7⟩ := SK.out wx hX; go_simp⟩) hS ?_
      simp only [Act.put]
      clear hS
      refine wpAnyH_ready (rs := [8]) (by kernel_rfl) (by simp) ?_
      refine AllReadyH.cons rfl (fun K hK => ?_) AllReadyH.nil
      go_simp
      refine (FC.out _ (Fr.refl [] wr).drew).mono ?_
      rintro r w3 ⟨rfl, f3⟩
      have F3 := hid ((Fr.refl [] wr).drew.trans f3)
      refine hK.out _ _ F3.out (fun hS => ?_)
      clear hK K f3
      refine wpAnyH_take (i := 9) (v := .bool false) rfl (by kernel_rfl) (by kernel_rfl) (by kernel_rfl) (fun _ _ _ h => h) (.inl ⟨by rfl, fun wx _ => by go_simp⟩) hS ?_
      simp only [Act.put]
      clear hS
      refine wpAnyH_done (by kernel_rfl) ?_ _
      go_wp2_with fail
      go_roundw
      case rel => exact ⟨i + 1, by omega, by go_num, HF.out.trans F3.out⟩
      case measure => simp [intOf]; omega
    · have hge : ¬ (i : Int) < (n : Int) := by omega
      go_wp2_with fail
      go_ret
      exact ⟨rfl, HF.out⟩
set_option maxRecDepth 20000 in
set_option maxHeartbeats 3200000 in
theorem version_c (w : World) (lg nx : Int) (sq : Nat) {L : Nat → List Fl} {ad ad' : Nat → Option Addr} {ln cp cp' : Nat → Nat} (h1 : VAt w L ad ln cp) (h2 : VAt w L ad' ln cp') :
    Calls Try.prog 13 #[.agg #[.int .i64 lg, .int .i64 nx, .int .u64 (sq : Int), .slice (ad 0) (ln 0) (cp 0), .slice (ad 1) (ln 1) (cp 1), .slice (ad 2) (ln 2) (cp 2), .slice (ad 3) (ln 3) (cp 3), .slice (ad 4) (ln 4) (cp 4)], .agg #[.int .i64 lg, .int .i64 nx, .int .u64 (sq : Int), .slice (ad' 0) (ln 0) (cp' 0), .slice (ad' 1) (ln 1) (cp' 1), .slice (ad' 2) (ln 2) (cp' 2), .slice (ad' 3) (ln 3) (cp' 3), .slice (ad' 4) (ln 4) (cp' 4)]] w fun r w' => r = .returned (.bool true) ∧ Fr [] w w' := by
  obtain ⟨W0, hW0⟩ : ∃ W0, W0 = (w.alloc (.cells #[.int .i64 lg, .int .i64 nx, .int .u64 (sq : Int), .slice (ad 0) (ln 0) (cp 0), .slice (ad 1) (ln 1) (cp 1), .slice (ad 2) (ln 2) (cp 2), .slice (ad 3) (ln 3) (cp 3), .slice (ad 4) (ln 4) (cp 4)] 26)).alloc (.cells #[.int .i64 lg, .int .i64 nx, .int .u64 (sq : Int), .slice (ad' 0) (ln 0) (cp' 0), .slice (ad' 1) (ln 1) (cp' 1), .slice (ad' 2) (ln 2) (cp' 2), .slice (ad' 3) (ln 3) (cp' 3), .slice (ad' 4) (ln 4) (cp' 4)] 26) := ⟨_, rfl⟩
  have F0 : Hid (Fr [] w W0) := hid (by rw [hW0]; exact ((Fr.refl _ _).alloc _).alloc _)
  have N0 : Hid (W0.heap[w.heap.size]? = some (.cells #[.int .i64 lg, .int .i64 nx, .int .u64 (sq : Int), .slice (ad 0) (ln 0) (cp 0), .slice (ad 1) (ln 1) (cp 1), .slice (ad 2) (ln 2) (cp 2), .slice (ad 3) (ln 3) (cp 3), .slice (ad 4) (ln 4) (cp 4)] 26 (0, 0))) := hid (by rw [hW0, blk_old _ _ (by simp)]; exact blk_new _ _)
  have N1 : Hid (W0.heap[w.heap.size + 1]? = some (.cells #[.int .i64 lg, .int .i64 nx, .int .u64 (sq : Int), .slice (ad' 0) (ln 0) (cp' 0), .slice (ad' 1) (ln 1) (cp' 1), .slice (ad' 2) (ln 2) (cp' 2), .slice (ad' 3) (ln 3) (cp' 3), .slice (ad' 4) (ln 4) (cp' 4)] 26 (0, 0))) := hid (by rw [hW0]; exact new_at _ _ (by simp))
  have H1 := hid (h1.fr F0.out)
  have H2 := hid (h2.fr F0.out)
  obtain ⟨z0, z1, z2, z3, z4, z5, z6, z7⟩ := vn_cells N0.out
  obtain ⟨x0, x1, x2, x3, x4, x5, x6, x7⟩ := vn_cells N1.out
  have e1 : (lg == lg) = true := by simp
  have e2 : (nx == nx) = true := by simp
  have e3 : ((sq : Int) == (sq : Int)) = true := by simp
  clear h1 h2
  go_enter Try.func13, Try.ntmps13
  go_upto_region 1 with fail
  rw [← hW0]
  clear hW0
  go_wp2_with fail
  clear z0 z1 z2 z3 z4 z5 z6 z7 x0 x1 x2 x3 x4 x5 x6 x7
  go_loopw [5] (fun v5 wr => ∃ i : Nat, i ≤ 5 ∧ v5 = .int .i64 (i : Int) ∧ Fr [] W0 wr) (fun v5 _ => 5 - (intOf v5).toNat)
  case atStart => exact ⟨0, by omega, rfl, Fr.refl _ _⟩
  case round =>
    obtain ⟨i, hi, rfl, hf⟩ := hrel
    have HF := hid hf
    clear hf
    by_cases hlt : i < 5
    · have hlt' : (i : Int) < 5 := by omega
      have SK : Hid (∀ W', Fr [] wr W' → W'.cell? ⟨w.heap.size, 3 + i, none⟩ = some (.slice (ad i) (ln i) (cp i)) ∧ W'.cell? ⟨w.heap.size + 1, 3 + i, none⟩ = some (.slice (ad' i) (ln i) (cp' i))) := hid (fun W' g => ⟨cell5 ((HF.out.trans g).at N0.out (by simp)) hlt, cell5 ((HF.out.trans g).at N1.out (by simp)) hlt⟩)
      have FC : Hid (∀ W', Fr [] wr W' → _) := hid (fun W' g => files_c W' (c := cp i) (c' := cp' i) (H1.out.len i hlt) (H1.out.small i hlt) (lev_fs (H1.out.fr (HF.out.trans g)) hlt) (lev_fs (H2.out.fr (HF.out.trans g)) hlt))
      generalize ad i = ai at *
      generalize ad' i = ai' at *
      generalize ln i = li at *
      generalize cp i = ci at *
      generalize cp' i = ci' at *
      go_upto_region 6 with fail
      refine wp_region_held_drew (S := fun w' => Fr [] wr w') (by kernel_rfl) (Fr.refl [] wr).drew (fun hS => ?_)
      refine wpAnyH_take (i := 0) (v := .int .i64 (i : Int)) rfl (by kernel_rfl) (by kernel_rfl) (by kernel_rfl) (fun _ _ _ h => h) (.inl ⟨by rfl, fun wx _ => by go_simp⟩) hS ?_
      simp only [Act.put]
      refine wpAnyH_take (i := 1) (v := .pointer (some ⟨w.heap.size, 3, none⟩)) rfl (by kernel_rfl) (by kernel_rfl) (by kernel_rfl) (fun _ _ _ h => h) (.inl ⟨by rfl, fun wx _ => by go_simp⟩) hS ?_
      simp only [Act.put]
      refine wpAnyH_take (i := 2) (v := .pointer (some ⟨w.heap.size, 3 + i, none⟩)) rfl (by kernel_rfl) (by kernel_rfl) (by kernel_rfl) (fun _ _ _ h => h) (.inl ⟨by rfl, fun wx _ => by go_simp⟩) hS ?_
      simp only [Act.put]
      refine wpAnyH_take (i := 3) (v := .slice ai li ci) rfl (by kernel_rfl) (by kernel_rfl) (by kernel_rfl) (fun _ _ _ h => h) (.inl ⟨by rfl, fun wx hX => by obtain ⟨s0, s1⟩ := SK.out wx hX; go_simp⟩) hS ?_
      simp only [Act.put]
      refine wpAnyH_take (i := 4) (v := .int .i64 (i : Int)) rfl (by kernel_rfl) (by kernel_rfl) (by kernel_rfl) (fun _ _ _ h => h) (.inl ⟨by rfl, fun wx _ => by go_simp⟩) hS ?_
      simp only [Act.put]
      refine wpAnyH_take (i := 5) (v := .pointer (some ⟨w.heap.size + 1, 3, none⟩)) rfl (by kernel_rfl) (by kernel_rfl) (by kernel_rfl) (fun _ _ _ h => h) (.inl ⟨by rfl, fun wx _ => by go_simp⟩) hS ?_
      simp only [Act.put]
      refine wpAnyH_take (i := 6) (v := .pointer (some ⟨w.heap.size + 1, 3 + i, none⟩)) rfl (by kernel_rfl) (by kernel_rfl) (by kernel_rfl) (fun _ _ _ h => h) (.inl ⟨by rfl, fun wx _ => by go_simp⟩) hS ?_
      simp only [Act.put]
      refine wpAnyH_take (i := 7) (v := .slice ai' li ci') rfl (by kernel_rfl) (by kernel_rfl) (by kernel_rfl) (fun _ _ _ h => h) (.inl ⟨by rfl, fun wx hX => by obtain ⟨s0, s1⟩ := SK.out wx hX; go_simp⟩) hS ?_
      simp only [Act.put]
      clear hS
      refine wpAnyH_ready (rs := [8]) (by kernel_rfl) (by simp) ?_
      refine AllReadyH.cons rfl (fun K hK => ?_) AllReadyH.nil
      go_simp
      refine (FC.out _ (Fr.refl [] wr).drew).mono ?_
      rintro r w3 ⟨rfl, f3⟩
      have F3 := hid ((Fr.refl [] wr).drew.trans f3)
      refine hK.out _ _ F3.out (fun hS => ?_)
      clear hK K f3
      refine wpAnyH_take (i := 9) (v := .bool false) rfl (by kernel_rfl) (by kernel_rfl) (by kernel_rfl) (fun _ _ _ h => h) (.inl ⟨by rfl, fun wx _ => by go_simp⟩) hS ?_
      simp only [Act.put]
      clear hS
      refine wpAnyH_done (by kernel_rfl) ?_ _
      go_wp2_with fail
      go_roundw
      case rel => exact ⟨i + 1, by omega, by go_num, HF.out.trans F3.out⟩
      case measure => simp [intOf]; omega
    · have hge : ¬ (i : Int) < 5 := by omega
      go_wp2_with fail
      go_ret
      exact ⟨rfl, F0.out.trans HF.out⟩
end Go.Proofs.Ytckdcaegnbgomaa
