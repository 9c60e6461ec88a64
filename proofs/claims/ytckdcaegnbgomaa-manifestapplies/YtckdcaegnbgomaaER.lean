/-
  What is known of edits and versions.
-/
import Derived.Test.YtckdcaegnbgomaaJ11
import Derived.Test.YtckdcaegnbgomaaEM
namespace Go.Proofs.Ytckdcaegnbgomaa
open Go.ChangeShapes Go.WideShapes Go.ChangeAt Go.RowKit

theorem size46 : (Try.prog.info? 26).map (·.size) = some 8 := by kernel_rfl
theorem load46 {w : World} {g : Nat} {t : TypeId} (hg : w.heap[g]? = some (.cells #[.int .i64 0, .int .i64 0, .int .u64 0, .slice none 0 0, .slice none 0 0, .slice none 0 0, .slice none 0 0, .slice none 0 0] t (0, 0))) : (loadVar 26 ⟨g, 0, none⟩).run Try.prog w = .ok (.agg #[.int .i64 0, .int .i64 0, .int .u64 0, .slice none 0 0, .slice none 0 0, .slice none 0 0, .slice none 0 0, .slice none 0 0]) w :=
  run_loadVar_row w g t 26 #[.int .i64 0, .int .i64 0, .int .u64 0, .slice none 0 0, .slice none 0 0, .slice none 0 0, .slice none 0 0, .slice none 0 0] (0, 0) _ hg Try.underlying26 rfl size46
/-- The boxes of follow and Apply. -/
structure Ai (w : World) (b : Nat) (wr : World) : Prop where
  n0 : wr.heap[w.heap.size]? = some (.cells #[.int .i64 0, .int .i64 0, .int .u64 0, .slice none 0 0, .slice none 0 0, .slice none 0 0, .slice none 0 0, .slice none 0 0] 26 (0, 0))
  n1 : wr.heap[w.heap.size + 1]? = some (.cells #[.int .i64 0, .int .i64 5, .int .u64 0, .slice (some ⟨b, 0, none⟩) 1 1, .slice none 0 0] 30 (0, 0))
  n2 : wr.heap[w.heap.size + 1 + 1]? = some (.cells #[.int .i64 0, .int .i64 0, .int .u64 0, .slice none 0 0, .slice none 0 0, .slice none 0 0, .slice none 0 0, .slice none 0 0] 26 (0, 0))
  fr : Fr [] w wr
theorem Ai.fr' {w wr W : World} {b : Nat} (h : Ai w b wr) (f : Fr [] wr W) : Ai w b W := ⟨f.at h.n0 (by simp), f.at h.n1 (by simp), f.at h.n2 (by simp), h.fr.trans f⟩
theorem Ai.new (w : World) (b : Nat) : Ai w b (((w.alloc (.cells #[.int .i64 0, .int .i64 0, .int .u64 0, .slice none 0 0, .slice none 0 0, .slice none 0 0, .slice none 0 0, .slice none 0 0] 26)).alloc (.cells #[.int .i64 0, .int .i64 5, .int .u64 0, .slice (some ⟨b, 0, none⟩) 1 1, .slice none 0 0] 30)).alloc (.cells #[.int .i64 0, .int .i64 0, .int .u64 0, .slice none 0 0, .slice none 0 0, .slice none 0 0, .slice none 0 0, .slice none 0 0] 26)) :=
  ⟨(((Fr.refl [] _).alloc _).alloc _).at (blk_new _ _) (by simp), ((Fr.refl [] _).alloc _).at (new_at _ _ (by simp)) (by simp), new_at _ _ (by simp), (((Fr.refl _ _).alloc _).alloc _).alloc _⟩
theorem ed_cells {W : World} {b k : Nat} (n : W.heap[k]? = some (.cells #[.int .i64 0, .int .i64 5, .int .u64 0, .slice (some ⟨b, 0, none⟩) 1 1, .slice none 0 0] 30 (0, 0))) : W.cell? ⟨k, 0, none⟩ = some (.int .i64 0) ∧ W.cell? ⟨k, 1, none⟩ = some (.int .i64 5) ∧ W.cell? ⟨k, 2, none⟩ = some (.int .u64 0) ∧ W.cell? ⟨k, 3, none⟩ = some (.slice (some ⟨b, 0, none⟩) 1 1) ∧ W.cell? ⟨k, 4, none⟩ = some (.slice none 0 0) :=
  ⟨by rw [blk_cell n]; rfl, by rw [blk_cell n]; rfl, by rw [blk_cell n]; rfl, by rw [blk_cell n]; rfl, by rw [blk_cell n]; rfl⟩
set_option maxRecDepth 20000 in
set_option maxHeartbeats 3200000 in
theorem follow0_c (w : World) (b : Nat) (hb : w.heap[b]? = some (.cells #[.int .i64 0, .int .i64 1] 59 (0, 0))) : Calls Try.prog 21 #[.agg #[.int .i64 0, .int .i64 0, .int .u64 0, .slice none 0 0, .slice none 0 0, .slice none 0 0, .slice none 0 0, .slice none 0 0], .agg #[.int .i64 0, .int .i64 5, .int .u64 0, .slice (some ⟨b, 0, none⟩) 1 1, .slice none 0 0]] w fun r w' => r = .returned (.tuple #[.agg #[.int .i64 0, .int .i64 0, .int .u64 0, .slice none 0 0, .slice none 0 0, .slice none 0 0, .slice none 0 0, .slice none 0 0], .int .i64 91]) ∧ Fr [] w w' := by
  obtain ⟨W0, hW0⟩ : ∃ W0, W0 = ((w.alloc (.cells #[.int .i64 0, .int .i64 0, .int .u64 0, .slice none 0 0, .slice none 0 0, .slice none 0 0, .slice none 0 0, .slice none 0 0] 26)).alloc (.cells #[.int .i64 0, .int .i64 5, .int .u64 0, .slice (some ⟨b, 0, none⟩) 1 1, .slice none 0 0] 30)).alloc (.cells #[.int .i64 0, .int .i64 0, .int .u64 0, .slice none 0 0, .slice none 0 0, .slice none 0 0, .slice none 0 0, .slice none 0 0] 26) := ⟨_, rfl⟩
  have I0 : Hid (Ai w b W0) := hid (by rw [hW0]; exact Ai.new w b)
  have WO := hid (without0_c W0 b (I0.out.fr.at hb (by simp)))
  clear hb
  obtain ⟨z0, z1, z2, z3, z4, z5, z6, z7⟩ := vz_cells I0.out.n0
  obtain ⟨x0, x1, x2, x3, x4⟩ := ed_cells I0.out.n1
  go_enter Try.func21, Try.ntmps21
  go_upto_region 1 with fail
  rw [← hW0]
  clear hW0
  go_upto_region 2 with (go_at_call 48; refine WO.out.mono ?_; rintro r W1 ⟨rfl, f1⟩; have F1 := hid f1; clear f1)
  clear z0 z1 z2 z3 z4 z5 z6 z7 x0 x1 x2 x3 x4 WO
  obtain ⟨W2, hW2⟩ : ∃ W2, W2 = W1.alloc (.cells #[.slice none 0 0, .slice none 0 0, .slice none 0 0, .slice none 0 0, .slice none 0 0] 24) := ⟨_, rfl⟩
  have I2 := hid ((I0.out.fr' F1.out).fr' (W := W2) (by rw [hW2]; exact (Fr.refl _ _).alloc _))
  rw [← hW2]
  clear hW2 I0 F1
  obtain ⟨z0, z1, z2, z3, z4, z5, z6, z7⟩ := vz_cells I2.out.n2
  have qf0 := blk_frozen I2.out.n2 0
  have qf1 := blk_frozen I2.out.n2 1
  have qf2 := blk_frozen I2.out.n2 2
  have qf3 := blk_frozen I2.out.n2 3
  have qf4 := blk_frozen I2.out.n2 4
  have qf5 := blk_frozen I2.out.n2 5
  have qf6 := blk_frozen I2.out.n2 6
  have qf7 := blk_frozen I2.out.n2 7
  go_wp2_with fail
  refine bodyPost_ret (ret_ct9 rfl (g := w.heap.size + 1 + 1) (by simp) (load46 (by rw [blk_set (blk_set (blk_set (blk_set (blk_set (blk_set (blk_set (blk_set I2.out.n2 0 _) 1 _) 2 _) 3 _) 4 _) 5 _) 6 _) 7 _]; rfl))) rfl ?_
  exact ⟨rfl, ((((((((I2.out.fr.set _ _ (.inr (by omega))).set _ _ (.inr (by omega))).set _ _ (.inr (by omega))).set _ _ (.inr (by omega))).set _ _ (.inr (by omega))).set _ _ (.inr (by omega))).set _ _ (.inr (by omega))).set _ _ (.inr (by omega)))⟩
set_option maxRecDepth 20000 in
set_option maxHeartbeats 3200000 in
theorem apply0_c (w : World) (b : Nat) (hb : w.heap[b]? = some (.cells #[.int .i64 0, .int .i64 1] 59 (0, 0))) : Calls Try.prog 9 #[.agg #[.int .i64 0, .int .i64 0, .int .u64 0, .slice none 0 0, .slice none 0 0, .slice none 0 0, .slice none 0 0, .slice none 0 0], .agg #[.int .i64 0, .int .i64 5, .int .u64 0, .slice (some ⟨b, 0, none⟩) 1 1, .slice none 0 0]] w fun r w' => r = .returned (.tuple #[.agg #[.int .i64 0, .int .i64 0, .int .u64 0, .slice none 0 0, .slice none 0 0, .slice none 0 0, .slice none 0 0, .slice none 0 0], .int .i64 91]) ∧ Fr [] w w' := by
  obtain ⟨W0, hW0⟩ : ∃ W0, W0 = ((w.alloc (.cells #[.int .i64 0, .int .i64 0, .int .u64 0, .slice none 0 0, .slice none 0 0, .slice none 0 0, .slice none 0 0, .slice none 0 0] 26)).alloc (.cells #[.int .i64 0, .int .i64 5, .int .u64 0, .slice (some ⟨b, 0, none⟩) 1 1, .slice none 0 0] 30)).alloc (.cells #[.int .i64 0, .int .i64 0, .int .u64 0, .slice none 0 0, .slice none 0 0, .slice none 0 0, .slice none 0 0, .slice none 0 0] 26) := ⟨_, rfl⟩
  have I0 : Hid (Ai w b W0) := hid (by rw [hW0]; exact Ai.new w b)
  have HB := hid hb
  have CK := hid (check0_c W0)
  have ED : Hid (∀ W, Fr [] w W → Calls Try.prog 20 #[.agg #[.int .i64 0, .int .i64 5, .int .u64 0, .slice (some ⟨b, 0, none⟩) 1 1, .slice none 0 0]] W fun r w' => r = .returned (.bool true) ∧ Fr [] W w') := hid (fun W fr => by
    have hb' := fr.at HB.out (by simp)
    have h1 := edit_c W (e := ⟨0, 5, 0, [(0, 1)], []⟩) (da := some ⟨b, 0, none⟩) (dc := 1) (aa := none) (ac := 0) ⟨⟨_, _, rfl, fun _ => ⟨b, 0, rfl, fun j g hj => by
      cases j with
      | zero => simp at hj; subst hj; exact ⟨by rw [Nat.zero_mul, blk_cell hb']; rfl, by rw [Nat.zero_mul, blk_cell hb']; rfl⟩
      | succ j => simp at hj⟩⟩, ⟨none, 0, rfl, fun h => by simp at h⟩, by simp, by simp⟩
    have hk : okE ⟨0, 5, 0, [(0, 1)], []⟩ = true := by decide
    rw [hk] at h1
    exact h1)
  clear hb
  obtain ⟨z0, z1, z2, z3, z4, z5, z6, z7⟩ := vz_cells I0.out.n0
  go_enter Try.func9, Try.ntmps9
  go_upto_region 1 with fail
  rw [← hW0]
  clear hW0
  go_upto_region 4 with (go_at_call 14; refine CK.out.mono ?_; rintro r W1 ⟨rfl, f1⟩; have I1 := hid (I0.out.fr' f1); clear f1)
  clear z0 z1 z2 z3 z4 z5 z6 z7 I0 CK
  obtain ⟨x0, x1, x2, x3, x4⟩ := ed_cells I1.out.n1
  have ED1 := hid (ED.out W1 I1.out.fr)
  go_upto_region 6 with (go_at_call 20; refine ED1.out.mono ?_; rintro r W2 ⟨rfl, f2⟩; have I2 := hid (I1.out.fr' f2); clear f2)
  clear x0 x1 x2 x3 x4 I1 ED1 ED
  obtain ⟨z0, z1, z2, z3, z4, z5, z6, z7⟩ := vz_cells I2.out.n0
  obtain ⟨x0, x1, x2, x3, x4⟩ := ed_cells I2.out.n1
  have FO := hid (follow0_c W2 b (I2.out.fr.at HB.out (by simp)))
  go_upto_region 7 with (go_at_call 21; refine FO.out.mono ?_; rintro r W3 ⟨rfl, f3⟩; have I3 := hid (I2.out.fr' f3); clear f3)
  clear z0 z1 z2 z3 z4 z5 z6 z7 x0 x1 x2 x3 x4 FO I2
  obtain ⟨W4, hW4⟩ : ∃ W4, W4 = W3.alloc (.cells #[.int .i64 0, .int .i64 0, .int .u64 0, .slice none 0 0, .slice none 0 0, .slice none 0 0, .slice none 0 0, .slice none 0 0] 26) := ⟨_, rfl⟩
  have I4 := hid (I3.out.fr' (W := W4) (by rw [hW4]; exact (Fr.refl _ _).alloc _))
  rw [← hW4]
  clear hW4 I3
  obtain ⟨z0, z1, z2, z3, z4, z5, z6, z7⟩ := vz_cells I4.out.n2
  have qf0 := blk_frozen I4.out.n2 0
  have qf1 := blk_frozen I4.out.n2 1
  have qf2 := blk_frozen I4.out.n2 2
  have qf3 := blk_frozen I4.out.n2 3
  have qf4 := blk_frozen I4.out.n2 4
  have qf5 := blk_frozen I4.out.n2 5
  have qf6 := blk_frozen I4.out.n2 6
  have qf7 := blk_frozen I4.out.n2 7
  go_wp2_with fail
  refine bodyPost_ret (ret_ct9 rfl (g := w.heap.size + 1 + 1) (by simp) (load46 (by rw [blk_set (blk_set (blk_set (blk_set (blk_set (blk_set (blk_set (blk_set I4.out.n2 0 _) 1 _) 2 _) 3 _) 4 _) 5 _) 6 _) 7 _]; rfl))) rfl ?_
  exact ⟨rfl, ((((((((I4.out.fr.set _ _ (.inr (by omega))).set _ _ (.inr (by omega))).set _ _ (.inr (by omega))).set _ _ (.inr (by omega))).set _ _ (.inr (by omega))).set _ _ (.inr (by omega))).set _ _ (.inr (by omega))).set _ _ (.inr (by omega)))⟩
theorem enc12 : encE ⟨1, 2, 0, [], []⟩ = [1, 2, 0, 0, 0] := by decide
set_option maxRecDepth 20000 in
set_option maxHeartbeats 3200000 in
theorem known9_c (w : World) : Calls Try.prog 6 #[] w fun r w' => r = .returned (.bool true) ∧ Fr [] w w' := by
  have EC := hid (enc_ok w (e := ⟨1, 2, 0, [], []⟩) (da := none) (dc := 0) (aa := none) (ac := 0) ⟨⟨none, 0, rfl, fun h => by simp at h⟩, ⟨none, 0, rfl, fun h => by simp at h⟩, by simp, by simp⟩ (by decide) (by simp) (by simp))
  rw [enc12] at EC
  simp only [List.length_nil, List.length_cons, Nat.zero_add, Nat.reduceAdd] at EC
  have AP : Hid (∀ (W : World) (b : Nat), W.heap[b]? = some (.cells #[.int .i64 0, .int .i64 1] 59 (0, 0)) → _) := hid (fun W b hb => apply0_c W b hb)
  go_enter Try.func6, Try.ntmps6
  go_upto_region 2 with (go_at_call 17; refine EC.out.mono ?_; rintro r W1 ⟨v1, rfl, o1, f1⟩; obtain ⟨a1, c1, hv1, _⟩ := ownsRow_slice o1; subst hv1; have F1 := hid f1; have O1 := hid (Rd.ownB (ns := [1, 2, 0, 0, 0]) o1); clear f1 o1)
  clear EC
  have APW := hid (AP.out (W1.alloc (.cells #[.int .i64 0, .int .i64 1] 59)) W1.heap.size (blk_new _ _))
  have FA : Hid (Fr [] W1 (W1.alloc (.cells #[.int .i64 0, .int .i64 1] 59))) := hid ((Fr.refl _ _).alloc _)
  clear AP
  go_upto_region 3 with (go_at_call 9; refine APW.out.mono ?_; rintro r W2 ⟨rfl, f2⟩; have F2 := hid (FA.out.trans f2); clear f2)
  obtain ⟨W3, hW3⟩ : ∃ W3, W3 = W2.alloc (.cells #[.int .i64 0, .int .i64 0, .int .u64 0, .slice none 0 0, .slice none 0 0, .slice none 0 0, .slice none 0 0, .slice none 0 0] 26) := ⟨_, rfl⟩
  have F3 := hid (F2.out.trans (c := W3) (by rw [hW3]; exact (Fr.refl _ _).alloc _))
  rw [← hW3]
  clear hW3 APW FA F2
  have hcv := run_conv (O1.out.fr F3.out)
  have hst : (strOf [1, 2, 0, 0, 0]) = ⟨#[1, 2, 0, 0, 0]⟩ := by decide
  rw [hst] at hcv
  go_wp2
  go_ret
  exact ⟨rfl, F1.out.trans F3.out⟩
end Go.Proofs.Ytckdcaegnbgomaa
