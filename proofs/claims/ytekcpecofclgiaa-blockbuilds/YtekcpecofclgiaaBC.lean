/-
  Package block: rising, appendEntry.
-/
import Derived.Test.YtekcpecofclgiaaBA
namespace Go.Proofs.Ytekcpecofclgiaa
open Go.ChangeShapes Go.WideShapes Go.ChangeAt Go.RowKit

theorem not_rises {ps : Ps} {i : Nat} (h : i < ps.length) (hf : flw (ahd ps i) (kA ps i) = false) : ¬ Rises ps := fun hr => by rw [hr i h] at hf; cases hf

set_option maxRecDepth 20000 in
set_option maxHeartbeats 1600000 in
theorem rising_c (w : World) {v : Value} {ps : Ps} (h : RdK w v ps) (hl : ps.length ≤ 1000000) :
    Calls Try.prog 29 #[v] w fun e w' => (e = .returned (.bool true) ∧ Rises ps ∨ e = .returned (.bool false) ∧ ¬ Rises ps) ∧ Fr [] w w' := by
  obtain ⟨a, c, rfl, hc, k1⟩ := h
  have H1 := hid k1
  clear k1
  obtain ⟨n, hn⟩ : ∃ n, n = ps.length := ⟨_, rfl⟩
  have HN := hid hn
  rw [← hn] at hl hc ⊢
  clear hn
  go_enter Try.func29, Try.ntmps29
  go_wp2_with fail
  go_loopw [3, 8] (fun v3 v8 wr => ∃ i : Nat, i ≤ n ∧ v8 = .int .i64 (i : Int) ∧ (Rd wr v3 (bv (ahd ps i)) ∧ By (ahd ps i) ∧ (ahd ps i).length ≤ 140737488355328 ∧ (∀ j, j < i → flw (ahd ps j) (kA ps j) = true)) ∧ Fr [] w wr) (fun _ v8 _ => n - (intOf v8).toNat)
  case atStart => exact ⟨0, Nat.zero_le _, rfl, ⟨.inl ⟨rfl, rfl⟩, fun n h => absurd h (by simp [ahd]), by simp [ahd], fun j h => by omega⟩, Fr.refl _ _⟩
  case round =>
    obtain ⟨i, hi, rfl, hr, hf⟩ := hrel
    have HR := hid hr
    have HF := hid hf
    clear hr hf
    by_cases hlt : i < n
    · have hil : i < ps.length := by rw [← HN.out]; exact hlt
      have hp := ps_at hil
      obtain ⟨b, off, rfl, m1⟩ := H1.out (by omega)
      obtain ⟨ka, kc, va, vc, P⟩ := m1 i _ hp
      have P2 := P.fr HF.out
      have z1 := P2.ck
      have z2 := P2.cv
      have HP := hid P2
      obtain ⟨lk, hlk⟩ : ∃ l, l = (kA ps i).length := ⟨_, rfl⟩
      obtain ⟨lv, hlv⟩ : ∃ l, l = (vA ps i).length := ⟨_, rfl⟩
      have HLK := hid hlk
      dsimp only at z1 z2
      rw [← hlk] at z1
      rw [← hlv] at z2
      obtain ⟨wx, hwx⟩ : ∃ wx, wx = wr.alloc (.cells #[.slice ka lk kc, .slice va lv vc] 40) := ⟨_, rfl⟩
      have fx : Fr [] wr wx := by rw [hwx]; exact (Fr.refl _ _).alloc _
      have FX := hid fx
      have HFW := hid (follows_c wx (HR.out.1.fr fx) HR.out.2.1 HR.out.2.2.1 (HP.out.rk.fr fx) HP.out.bk HP.out.lk)
      clear hlk hlv P P2 m1 hp fx hil
      go_wp2_with fail
      rw [← hwx]
      rw [← HLK.out] at HFW
      have bx : wx.heap[wr.heap.size]? = some (.cells #[.slice ka lk kc, .slice va lv vc] 40 (0, 0)) := by rw [hwx]; exact blk_new _ _
      clear hwx
      refine HFW.out.mono ?_
      rintro e w1 ⟨rfl, f1⟩
      have b1 := f1.at bx (by simp)
      have F1 := hid (FX.out.trans f1)
      have R1 := hid (HP.out.rk.fr (FX.out.trans f1))
      rw [← HLK.out] at R1
      clear HFW bx f1
      have hcell := blk_cell b1 0
      rcases hq : flw (ahd ps i) (kA ps i) with _ | _
      · have HQ := hid hq
        clear hq
        go_wp2
        go_ret
        exact ⟨.inr ⟨rfl, not_rises (by have := HN.out; omega) HQ.out⟩, HF.out.trans F1.out⟩
      · have HQ := hid hq
        clear hq
        go_wp2
        go_roundw
        case rel =>
          refine ⟨i + 1, by omega, by go_num, ⟨?_, ?_, ?_, ?_⟩, HF.out.trans F1.out⟩
          · rw [ahd_succ]; exact R1.out
          · rw [ahd_succ]; exact HP.out.bk
          · rw [ahd_succ]; exact HP.out.lk
          · intro j hj
            by_cases hji : j = i
            · subst hji; exact HQ.out
            · exact HR.out.2.2.2 j (by omega)
        case measure => simp [intOf]; omega
    · have hk' : i = n := by omega
      subst hk'
      go_wp2
      go_ret
      exact ⟨.inl ⟨rfl, fun j hj => HR.out.2.2.2 j (by rw [HN.out]; exact hj)⟩, HF.out⟩
end Go.Proofs.Ytekcpecofclgiaa
