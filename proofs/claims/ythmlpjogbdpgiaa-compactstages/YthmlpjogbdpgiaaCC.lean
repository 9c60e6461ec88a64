/-
  compact.rises in general.
-/
import Derived.Test.YthmlpjogbdpgiaaJ14
namespace Go.Proofs.Ythmlpjogbdpgiaa
open Go.ChangeShapes Go.WideShapes Go.ChangeAt Go.RowKit

set_option maxRecDepth 20000 in
set_option maxHeartbeats 3200000 in
theorem crises_c (w : World) {v : Value} {ps : Ps} (h : RdK w v ps) (hl : ps.length ≤ 1000000) :
    Calls Try.prog 25 #[v] w fun e w' => (e = .returned (.bool true) ∧ Rises ps ∨ e = .returned (.bool false) ∧ ¬ Rises ps) ∧ Fr [] w w' := by
  obtain ⟨a, c, rfl, hc, k1⟩ := h
  have H1 := hid k1
  clear k1
  obtain ⟨n, hn⟩ : ∃ n, n = ps.length := ⟨_, rfl⟩
  have HN := hid hn
  rw [← hn] at hl hc ⊢
  clear hn
  go_enter Try.func25, Try.ntmps25
  go_wp2_with fail
  go_loopw [13] (fun v13 wr => ∃ i : Nat, i ≤ n ∧ v13 = .int .i64 (i : Int) ∧ (∀ j, j < i → flw (ahd ps j) (kA ps j) = true) ∧ Fr [] w wr) (fun v13 _ => n - (intOf v13).toNat)
  case atStart => exact ⟨0, Nat.zero_le _, rfl, fun j h => by omega, Fr.refl _ _⟩
  case round =>
    obtain ⟨i, hi, rfl, hr, hf⟩ := hrel
    have HF := hid hf
    have HR := hid hr
    clear hf hr
    by_cases hlt : i < n
    · have hil : i < ps.length := by rw [← HN.out]; exact hlt
      obtain ⟨b, off, rfl, m1⟩ := H1.out (by omega)
      have HM := hid m1
      obtain ⟨ka, kc, va, vc, P⟩ := m1 i _ (ps_at hil)
      have z1 := cell_fr HF.out P.ck
      have z2 := cell_fr HF.out P.cv
      have RK := hid (P.rk.fr HF.out)
      have BK := hid P.bk
      have hlk := P.lk
      dsimp only at z1 z2 RK BK hlk
      clear P m1
      have HNO : Hid (flw (ahd ps i) (kA ps i) = false → ¬ Rises ps) := hid (fun h => not_rises hil h)
      have HYS : Hid (flw (ahd ps i) (kA ps i) = true → ∀ j, j < i + 1 → flw (ahd ps j) (kA ps j) = true) := hid (fun h j hj => by
        rcases Nat.lt_or_ge j i with h' | h'
        · exact HR.out j h'
        · have : j = i := by omega
          subst this; exact h)
      have HK1 : Hid (flw (ahd ps i) (kA ps i) = true → isK (kA ps i) = true) := hid flw_isK
      obtain ⟨k, hkk⟩ : ∃ k, k = kA ps i := ⟨_, rfl⟩
      obtain ⟨vl, hvl⟩ : ∃ vl, vl = (vA ps i).length := ⟨_, rfl⟩
      rw [← hkk] at z1 RK BK hlk HNO HK1
      rw [← hvl] at z2
      have HKK := hid hkk
      clear hkk hvl
      obtain ⟨kl, hkl⟩ : ∃ kl, kl = k.length := ⟨_, rfl⟩
      rw [← hkl] at z1 hlk RK
      have HKL := hid hkl
      clear hkl
      obtain ⟨W, hW⟩ : ∃ W, W = wr.alloc (.cells #[.slice ka kl kc, .slice va vl vc] 50) := ⟨_, rfl⟩
      have FW : Hid (Fr [] w W) := hid (by rw [hW]; exact HF.out.alloc _)
      have XW : Hid (W.heap[wr.heap.size]? = some (.cells #[.slice ka kl kc, .slice va vl vc] 50 (0, 0))) := hid (by rw [hW]; exact blk_new _ _)
      have RK2 : Hid (Rd W (.slice ka kl kc) (bv k)) := hid (by rw [hW]; exact RK.out.fr ((Fr.refl _ _).alloc _))
      have y0 := blk_cell XW.out 0
      simp at y0
      clear RK
      go_upto_region 4 with fail
      rw [← hW]
      clear hW
      rcases hk : isK k with _ | _
      · have SP := hid (Split_no W RK2.out BK.out (by rw [← HKL.out]; exact hlk) hk)
        have HN2 : Hid (¬ Rises ps) := hid (HNO.out (by
          rcases hf : flw (ahd ps i) k with _ | _
          · rfl
          · rw [HK1.out hf] at hk; cases hk))
        clear hk
        go_wp2_with fail
        refine SP.out.mono ?_
        rintro e w2 ⟨rfl, f2⟩
        have F2 := hid (FW.out.trans f2)
        clear f2
        go_wp2
        go_ret
        exact ⟨.inr ⟨rfl, HN2.out⟩, F2.out⟩
      have SP := hid (Split_yes W RK2.out BK.out hk)
      obtain ⟨sq, hsq⟩ : ∃ sq, sq = tailN k / 256 := ⟨_, rfl⟩
      obtain ⟨kd, hkd⟩ : ∃ kd, kd = tailN k % 256 := ⟨_, rfl⟩
      rw [← hsq, ← hkd] at SP
      clear hsq hkd
      by_cases h0 : i = 0
      · have HYY : Hid (∀ j, j < i + 1 → flw (ahd ps j) (kA ps j) = true) := hid (HYS.out (by unfold flw ahd; rw [if_pos h0, if_pos rfl, ← HKK.out]; exact hk))
        subst h0
        clear hk
        go_wp2_with fail
        refine SP.out.mono ?_
        rintro e w2 ⟨v2, rfl, o2, f2⟩
        obtain ⟨sa, sc, rfl, _⟩ := ownsRow_slice o2
        have F2 := hid (FW.out.trans f2)
        obtain ⟨ul, hul⟩ : ∃ ul, ul = (userL k).length := ⟨_, rfl⟩
        rw [← hul]
        clear hul o2 f2
        go_wp2
        go_roundw
        case rel => exact ⟨1, by omega, by go_num, HYY.out, F2.out⟩
        case measure => simp [intOf]; omega
      obtain ⟨i', rfl⟩ : ∃ i', i = i' + 1 := ⟨i - 1, by omega⟩
      have hil' : i' < ps.length := by omega
      have hk' := flw_isK (HR.out i' (by omega))
      obtain ⟨ja, jc, ua, uc, P2⟩ := HM.out i' _ (ps_at hil')
      have C2 := hid P2.ck
      have J2 := hid P2.rk
      have BJ := hid P2.bk
      have hlj := P2.lk
      dsimp only at C2 J2 BJ hlj
      clear P2
      have hne : kA ps i' ≠ [] := fun e => by have := isK_len hk'; rw [e] at this; simp at this
      have HFL : Hid (flw (ahd ps (i' + 1)) k = decide (cx (kA ps i') k < 0)) := hid (by
        rw [ahd_succ]; unfold flw cx; rw [if_neg hne, hk', hk]; rfl)
      rw [← HKK.out] at HYS
      have HCE : Hid (ce (kA ps i') k = 0) := hid (by unfold ce; rw [hk', hk]; rfl)
      clear hne hk hk' h0
      generalize kA ps i' = j at *
      obtain ⟨jl, hjl⟩ : ∃ jl, jl = j.length := ⟨_, rfl⟩
      rw [← hjl] at C2 J2 hlj
      have HJL := hid hjl
      clear hjl
      go_wp2_with fail
      refine SP.out.mono ?_
      rintro e w2 ⟨v2, rfl, o2, f2⟩
      obtain ⟨sa, sc, rfl, _⟩ := ownsRow_slice o2
      have F2 := hid (FW.out.trans f2)
      have X2 := hid (f2.at XW.out (by simp))
      have z3 := cell_fr F2.out C2.out
      have CP := fun W (f : Fr [] w2 W) => compare_any W ((J2.out.fr F2.out).fr f) BJ.out (by rw [← HJL.out]; exact hlj) ((RK2.out.fr f2).fr f) BK.out (by rw [← HKL.out]; exact hlk)
      rw [HCE.out] at CP
      have CP := hid CP
      obtain ⟨ul, hul⟩ : ∃ ul, ul = (userL k).length := ⟨_, rfl⟩
      rw [← hul]
      clear hul o2 f2 y0 z1 z2
      have y0 := blk_cell X2.out 0
      simp at y0
      obtain ⟨od, hod⟩ : ∃ od, od = cx j k := ⟨_, rfl⟩
      rw [← hod] at CP HFL
      clear hod
      have hsub : IntKind.i64.wrap (i' : Int) = (i' : Int) := by rw [IntKind.wrap_i64]; omega
      have hin : (i' : Int) < (n : Int) := by omega
      have hne0 : (((i' : Int) + 1) == 0) = false := beq_eq_false_iff_ne.2 (by omega)
      have SK : Hid (∀ w', Fr [] w2 w' → w'.cell? ⟨b, off + i' * 2, none⟩ = some (.slice ja jl jc) ∧ w'.cell? ⟨wr.heap.size, 0, none⟩ = some (.slice ka kl kc)) := hid (fun w' f => ⟨cell_fr f z3, by rw [blk_cell (f.at X2.out (by simp))]; rfl⟩)
      go_upto_region 8 with fail
      refine wp_region_held_drew (S := fun w' => w'.cell? ⟨b, off + i' * 2, none⟩ = some (.slice ja jl jc) ∧ w'.cell? ⟨wr.heap.size, 0, none⟩ = some (.slice ka kl kc)) (by kernel_rfl) (SK.out _ (Fr.refl _ _).drew) (fun hS => ?_)
      refine wpAnyH_take (i := 0) (v := .slice (some ⟨b, off, none⟩) n c) rfl (by kernel_rfl) (by kernel_rfl) (by kernel_rfl) (fun _ _ _ h => h) (.inl ⟨by rfl, fun wx _ => by go_simp⟩) hS ?_
      simp only [Act.put]
      refine wpAnyH_take (i := 1) (v := .int .i64 ((i' : Int) + 1)) rfl (by kernel_rfl) (by kernel_rfl) (by kernel_rfl) (fun _ _ _ h => h) (.inl ⟨by rfl, fun wx _ => by go_simp⟩) hS ?_
      simp only [Act.put]
      refine wpAnyH_take (i := 2) (v := .int .i64 (i' : Int)) rfl (by kernel_rfl) (by kernel_rfl) (by kernel_rfl) (fun _ _ _ h => h) (.inl ⟨by rfl, fun wx _ => by go_simp⟩) hS ?_
      simp only [Act.put]
      refine wpAnyH_take (i := 3) (v := .pointer (some ⟨b, off + i' * 2, none⟩)) rfl (by kernel_rfl) (by kernel_rfl) (by kernel_rfl) (fun _ _ _ h => h) (.inl ⟨by rfl, fun wx _ => by go_simp⟩) hS ?_
      simp only [Act.put]
      refine wpAnyH_take (i := 4) (v := .pointer (some ⟨b, off + i' * 2, none⟩)) rfl (by kernel_rfl) (by kernel_rfl) (by kernel_rfl) (fun _ _ _ h => h) (.inl ⟨by rfl, fun wx _ => by go_simp⟩) hS ?_
      simp only [Act.put]
      refine wpAnyH_take (i := 5) (v := .slice ja jl jc) rfl (by kernel_rfl) (by kernel_rfl) (by kernel_rfl) (fun _ _ _ h => h) (.inl ⟨by rfl, fun wx hX => by obtain ⟨x0, x1⟩ := hX; go_simp⟩) hS ?_
      simp only [Act.put]
      refine wpAnyH_take (i := 6) (v := .pointer (some ⟨wr.heap.size, 0, none⟩)) rfl (by kernel_rfl) (by kernel_rfl) (by kernel_rfl) (fun _ _ _ h => h) (.inl ⟨by rfl, fun wx _ => by go_simp⟩) hS ?_
      simp only [Act.put]
      refine wpAnyH_take (i := 7) (v := .slice ka kl kc) rfl (by kernel_rfl) (by kernel_rfl) (by kernel_rfl) (fun _ _ _ h => h) (.inl ⟨by rfl, fun wx hX => by obtain ⟨x0, x1⟩ := hX; go_simp⟩) hS ?_
      simp only [Act.put]
      clear hS
      refine wpAnyH_ready (rs := [8]) (by kernel_rfl) (by simp) ?_
      refine AllReadyH.cons rfl (fun K hK => ?_) AllReadyH.nil
      go_simp
      refine (CP.out w2.drew (Fr.refl _ _).drew).mono ?_
      rintro e w3 ⟨rfl, f3⟩
      have F3 := hid (F2.out.drew.trans f3)
      refine hK.out _ _ (SK.out _ ((Fr.refl _ _).drew.trans f3)) (fun hS => ?_)
      clear hK K f3
      refine wpAnyH_take (i := 9) (v := .tuple #[.int .i64 od, .int .i64 0]) rfl (by kernel_rfl) (by kernel_rfl) (by kernel_rfl) (fun _ _ _ h => h) (.inl ⟨by rfl, fun wx _ => by go_simp⟩) hS ?_
      simp only [Act.put]
      refine wpAnyH_take (i := 10) (v := .int .i64 od) rfl (by kernel_rfl) (by kernel_rfl) (by kernel_rfl) (fun _ _ _ h => h) (.inl ⟨by rfl, fun wx _ => by go_simp⟩) hS ?_
      simp only [Act.put]
      refine wpAnyH_take (i := 11) (v := .int .i64 0) rfl (by kernel_rfl) (by kernel_rfl) (by kernel_rfl) (fun _ _ _ h => h) (.inl ⟨by rfl, fun wx _ => by go_simp⟩) hS ?_
      simp only [Act.put]
      refine wpAnyH_take (i := 12) (v := .int .i64 od) rfl (by kernel_rfl) (by kernel_rfl) (by kernel_rfl) (fun _ _ _ h => h) (.inl ⟨by rfl, fun wx _ => by go_simp⟩) hS ?_
      simp only [Act.put]
      refine wpAnyH_take (i := 13) (v := .int .i64 0) rfl (by kernel_rfl) (by kernel_rfl) (by kernel_rfl) (fun _ _ _ h => h) (.inl ⟨by rfl, fun wx _ => by go_simp⟩) hS ?_
      simp only [Act.put]
      clear hS
      refine wpAnyH_done (by kernel_rfl) ?_ _
      by_cases hneg : od < 0
      · have HYY : Hid (∀ q, q < i' + 1 + 1 → flw (ahd ps q) (kA ps q) = true) := hid (HYS.out (by rw [HFL.out]; exact decide_eq_true hneg))
        have hneg' : ¬ (0 : Int) ≤ od := by omega
        go_wp2
        go_roundw
        case rel => exact ⟨i' + 1 + 1, by omega, by go_num, HYY.out, F3.out⟩
        case measure => simp [intOf]; omega
      · have HN2 : Hid (¬ Rises ps) := hid (HNO.out (by rw [HFL.out]; exact decide_eq_false hneg))
        have hneg' : (0 : Int) ≤ od := by omega
        go_wp2
        go_ret
        exact ⟨.inr ⟨rfl, HN2.out⟩, F3.out⟩
    · have hie : i = n := by omega
      subst hie
      go_wp2
      go_ret
      exact ⟨.inl ⟨rfl, fun j hj => HR.out j (by rw [HN.out]; exact hj)⟩, HF.out⟩
end Go.Proofs.Ythmlpjogbdpgiaa
