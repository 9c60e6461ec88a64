/-
  The walk of KeccakPermutes.
-/
import Derived.Test.YthmjglglbdlieaaDoorLP
import Derived.Test.YthmjglglbdlieaaDoorRB
namespace Go.Proofs.YthmjglglbdlieaaDoor
open Go.ChangeShapes Go.WideShapes Go.ChangeAt Go.RowKit

theorem refPermuteL_c (w : World) {cs : List Value} {f : Nat → BitVec 64} (h : cs.toArray = vals 25 f) :
    Calls Tryd.prog 14 #[.agg cs.toArray] w fun e w' => e = .returned (.agg (vals 25 (perm 24 f))) ∧ Fr [] w w' := by
  rw [h]; exact refPermute_c w f

set_option maxRecDepth 20000 in
set_option maxHeartbeats 800000 in
theorem permutes_c (w : World) (T : Tabs w) (f : Nat → BitVec 64) :
    Calls Tryd.prog 4 #[.agg (vals 25 f)] w fun e w' => e = .returned (.bool true) ∧ Fr [] w w' := by
  have HT := hid T
  clear T
  go_enter Tryd.func4, Tryd.ntmps4
  go_upto_region 1 with fail
  have HB : Hid ((w.alloc (.cells (vals 25 f) 36)).heap[w.heap.size]? = some (.cells (vals 25 f) 36 (0, 0))) := blk_new _ _
  have HF : Hid (Fr [] w (w.alloc (.cells (vals 25 f) 36))) := (Fr.refl _ _).alloc _
  generalize w.alloc (.cells (vals 25 f) 36) = w4 at HB HF ⊢
  have hcmp : ∀ wx : World, (Op.equalIn 10000 36 (.agg (vals 25 (perm 24 f))) (.agg (vals 25 (perm 24 f)))).run Tryd.prog wx = .ok true wx := fun wx => eqIn25 wx _ _ fun _ _ => rfl
  have hgd := guard25
  have hu := Tryd.underlying36
  have H0 := hid (show (w4.drew.rangeAt w.heap.size 0 (vals 25 f).toList ∧ w4.drew.rangeAt w.heap.size 0 (vals 25 f).toList ∧ Tabs w4.drew ∧ Fr [] w w4.drew) from ⟨rangeV HB.out, rangeV HB.out, HT.out.fr HF.out.drew, HF.out.drew⟩)
  obtain ⟨c1, hc1⟩ : ∃ c1, c1 = (vals 25 f).toList := ⟨_, rfl⟩
  rw [← hc1] at H0
  have A1 := hid (show c1.toArray = vals 25 f by rw [hc1, Array.toArray_toList])
  have hi1 : (Tryd.prog.info? 36).map (·.size) = some c1.length := by rw [hc1, Array.length_toList, vals_size]; exact info25
  clear hc1 HB HF
  refine wp_region_held_drew (S := fun w' => w'.rangeAt w.heap.size 0 c1 ∧ w'.rangeAt w.heap.size 0 c1 ∧ Tabs w' ∧ Fr [] w w') (by kernel_rfl) H0.out (fun hH => ?_)
  have HH := hid hH
  clear hH
  refine wpAnyH_ready (rs := [0]) (by kernel_rfl) (by simp) ?_
  refine AllReadyH.cons rfl (fun K hK => ?_) AllReadyH.nil
  go_simp
  refine (known_c _ HH.out.2.2.1).mono ?_
  rintro e wa ⟨rfl, fa⟩
  refine hK.out _ _ (keep2 HH.out fa) (fun hH2 => ?_)
  have HH2 := hid hH2
  clear hK K hH2 fa
  refine wpAnyH_ready (rs := [1]) (by kernel_rfl) (by simp) ?_
  refine AllReadyH.cons rfl (fun K hK => ?_) AllReadyH.nil
  go_simp
  refine hK.out _ _ HH2.out (fun hH => ?_)
  clear hK K
  refine wpAnyH_take (i := 2) (v := .agg c1.toArray) rfl (by kernel_rfl) (by kernel_rfl) (by kernel_rfl) (fun _ _ _ h => h) (yieldsIf_load_mid (by rfl) 36 (.tmp 1) rfl w.heap.size 0 rfl c1 _ (fun _ h => h.1) hu rfl hi1) hH ?_
  simp only [Act.put]
  refine wpAnyH_take (i := 4) (v := .agg c1.toArray) rfl (by kernel_rfl) (by kernel_rfl) (by kernel_rfl) (fun _ _ _ h => h) (yieldsIf_load_mid (by rfl) 36 (.tmp 1) rfl w.heap.size 0 rfl c1 _ (fun _ h => h.2.1) hu rfl hi1) hH ?_
  simp only [Act.put]
  clear hH
  refine wpAnyH_ready (rs := [3]) (by kernel_rfl) (by simp) ?_
  refine AllReadyH.cons rfl (fun K hK => ?_) AllReadyH.nil
  go_simp
  refine (permuteL_c _ HH2.out.2.2.1 A1.out).mono ?_
  rintro e wb ⟨rfl, fb⟩
  refine hK.out _ _ (keep2 HH2.out fb) (fun hH3 => ?_)
  have HH3 := hid hH3
  clear hK K hH3 fb
  refine wpAnyH_ready (rs := [5]) (by kernel_rfl) (by simp) ?_
  refine AllReadyH.cons rfl (fun K hK => ?_) AllReadyH.nil
  go_simp
  refine (refPermuteL_c _ A1.out).mono ?_
  rintro e wc ⟨rfl, fc⟩
  refine hK.out _ _ (keep2 HH3.out fc) (fun hH4 => ?_)
  have HH4 := hid hH4
  clear hK K hH4 fc
  refine wpAnyH_ready (rs := [6]) (by kernel_rfl) (by simp) ?_
  refine AllReadyH.cons rfl (fun K hK => ?_) AllReadyH.nil
  go_simp
  refine hK.out _ _ HH4.out (fun _ => ?_)
  clear hK K
  refine wpAnyH_ready (rs := [7]) (by kernel_rfl) (by simp) ?_
  refine AllReadyH.cons rfl (fun K hK => ?_) AllReadyH.nil
  go_simp
  refine hK.out _ _ HH4.out (fun _ => ?_)
  clear hK K
  refine wpAnyH_ready (rs := [8]) (by kernel_rfl) (by simp) ?_
  refine AllReadyH.cons rfl (fun K hK => ?_) AllReadyH.nil
  go_simp
  refine hK.out _ _ HH4.out (fun _ => ?_)
  clear hK K
  refine wpAnyH_done (by kernel_rfl) ?_ _
  clear hcmp hgd hu hi1
  go_wp2
  go_ret
  exact ⟨rfl, HH4.out.2.2.2⟩
end Go.Proofs.YthmjglglbdlieaaDoor
