/-
  What Permute answers.
-/
import Derived.Test.YthmjglglbdlieaaDoorKR
import Derived.Test.YthmjglglbdlieaaDoorKC
import Derived.Test.YthmjglglbdlieaaDoorKM
namespace Go.Proofs.YthmjglglbdlieaaDoor
open Go.ChangeShapes Go.WideShapes Go.ChangeAt Go.RowKit

set_option maxRecDepth 20000 in
set_option maxHeartbeats 400000 in
theorem permute_c (w : World) (T : Tabs w) (f : Nat → BitVec 64) :
    Calls Tryd.prog 13 #[.agg (vals 25 f)] w fun e w' => e = .returned (.agg (vals 25 (perm 24 f))) ∧ Fr [] w w' := by
  have HT := hid T
  have h3 := T.lt
  clear T
  go_enter Tryd.func13, Tryd.ntmps13
  go_upto_region 1 with fail
  obtain ⟨w1, hw1, hb, hz, hf, hs⟩ := start2 w f
  rw [zero25, hw1]
  have HB := hid hb
  have HZ := hid hz
  have HF := hid hf
  clear hw1 hb hz hf hs
  go_wp2
  go_loopw [4] (fun v4 wr => ∃ t : Nat, t ≤ 24 ∧ v4 = .int .i64 (t : Int) ∧ wr.heap[w.heap.size]? = some (.cells (vals 25 (perm t f)) 36 (0, 0)) ∧ wr.heap[w.heap.size + 1]? = some (.cells (vals 25 (fun _ => 0)) 36 (0, 0)) ∧ Fr [] w wr) (fun v4 _ => 24 - (intOf v4).toNat)
  case atStart => exact ⟨0, by omega, rfl, HB.out, HZ.out, HF.out⟩
  case round =>
    clear HB HZ HF
    obtain ⟨t, ht, rfl, hb, hz, hfr⟩ := hrel
    have HB := hid hb
    have HZ := hid hz
    have HF := hid hfr
    clear hz hfr
    by_cases hlt : t < 24
    · clear hb
      go_upto_region 4 with fail
      apply wp_region_lit
      refine wpList_ld rfl (.tmp 1) rfl HB.out (by simp [Act.eval]) ?_
      go_wp2_with fail
      refine (mixColumns_c _ _).mono ?_
      rintro e wa ⟨rfl, fa⟩
      go_wp2_with fail
      refine (moveLanes_c _ (HT.out.fr (HF.out.trans fa)) _).mono ?_
      rintro e wb ⟨rfl, fb⟩
      go_wp2_with fail
      refine (mixRows_c _ _).mono ?_
      rintro e wc ⟨rfl, fc⟩
      have FA := hid ((fa.trans fb).trans fc)
      have hbc := FA.out.at HB.out (by simp)
      have hzc := FA.out.at HZ.out (by simp)
      rename_i hK
      refine hK _ _ ?_
      refine wpList_st (g := chi (rho (theta (perm t f)))) rfl (.tmp 1) (.tmp 10) rfl hbc (by simp [Act.eval]) (by simp [Act.eval]) ?_
      have hr := row_heap (g := chi (rho (theta (perm t f)))) hbc
      have RH := hid hr
      have RZ := hid ((row_ne wc (vals 25 (chi (rho (theta (perm t f))))) (show w.heap.size + 1 ≠ w.heap.size by omega)).trans hzc)
      have RF := hid ((HF.out.trans FA.out).row (vals 25 (chi (rho (theta (perm t f))))) (.inr (Nat.le_refl w.heap.size)))
      clear hr hK hbc hzc FA fa fb fc HB HZ HF
      generalize World.setRow wc w.heap.size (vals 25 (chi (rho (theta (perm t f))))) = w2 at RH RZ RF ⊢
      have e1 := lane_at RH.out (i := 0) (by omega)
      have e2 := (HT.out.fr RF.out).con t hlt
      have fz := blk_frozen RH.out
      have HV := hid (rnd_of (r := t) (f := perm t f) (g := chi (rho (theta (perm t f)))) fun i _ => rfl)
      generalize chi (rho (theta (perm t f))) = g at *
      go_wp2
      go_region
      all_goals go_wp2
      all_goals go_roundw
      all_goals first
        | (simp [intOf]; omega)
        | (simp only [bits_xor]
           refine ⟨t + 1, by omega, by go_num, (blk_drew _ _).trans (blk_as (blk_up RH.out 0 _) fun i hi => HV.out i hi), (blk_drew _ _).trans ((blk_setne _ _ _ (by omega)).trans RZ.out), (RF.out.set _ _ (.inr (Nat.le_refl _))).drew⟩)
    · have ht24 : t = 24 := by omega
      subst ht24
      clear hb
      go_upto_region 7 with fail
      apply wp_region_lit
      refine wpList_ld rfl (.tmp 1) rfl HB.out (by simp [Act.eval]) ?_
      refine wpList_st (g := perm 24 f) rfl (.tmp 2) (.tmp 19) rfl HZ.out (by simp [Act.eval, Act.put]) (by simp [Act.eval, Act.put]) ?_
      have RH := hid (row_heap (g := perm 24 f) HZ.out)
      have RF := hid (HF.out.row (vals 25 (perm 24 f)) (.inr (Nat.le_succ w.heap.size)))
      generalize World.setRow _ (w.heap.size + 1) (vals 25 (perm 24 f)) = w2 at RH RF ⊢
      go_wp2
      exact bodyPost_ret (v := .agg (vals 25 (perm 24 f))) (ret25 rfl RH.out rfl) rfl ⟨rfl, RF.out⟩
end Go.Proofs.YthmjglglbdlieaaDoor
