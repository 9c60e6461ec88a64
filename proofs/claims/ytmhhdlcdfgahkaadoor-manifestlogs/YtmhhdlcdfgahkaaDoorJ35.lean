/-
  What is known of edits and versions.
-/
import Derived.Test.YtmhhdlcdfgahkaaDoorJ18
import Derived.Test.YtmhhdlcdfgahkaaDoorJ34
namespace Go.Proofs.YtmhhdlcdfgahkaaDoor
open Go.ChangeShapes Go.WideShapes Go.ChangeAt Go.RowKit

theorem size46 : (Tryd.prog.info? 28).map (·.size) = some 8 := by kernel_rfl
theorem load46 {w : World} {g : Nat} {t : TypeId} (hg : w.heap[g]? = some (.cells #[.int .i64 0, .int .i64 0, .int .u64 0, .slice none 0 0, .slice none 0 0, .slice none 0 0, .slice none 0 0, .slice none 0 0] t (0, 0))) : (loadVar 28 ⟨g, 0, none⟩).run Tryd.prog w = .ok (.agg #[.int .i64 0, .int .i64 0, .int .u64 0, .slice none 0 0, .slice none 0 0, .slice none 0 0, .slice none 0 0, .slice none 0 0]) w :=
  run_loadVar_row w g t 28 #[.int .i64 0, .int .i64 0, .int .u64 0, .slice none 0 0, .slice none 0 0, .slice none 0 0, .slice none 0 0, .slice none 0 0] (0, 0) _ hg Tryd.underlying28 rfl size46
/-- The boxes of follow and Apply. -/
structure Ai (w : World) (b : Nat) (wr : World) : Prop where
  n0 : wr.heap[w.heap.size]? = some (.cells #[.int .i64 0, .int .i64 0, .int .u64 0, .slice none 0 0, .slice none 0 0, .slice none 0 0, .slice none 0 0, .slice none 0 0] 28 (0, 0))
  n1 : wr.heap[w.heap.size + 1]? = some (.cells #[.int .i64 0, .int .i64 5, .int .u64 0, .slice (some ⟨b, 0, none⟩) 1 1, .slice none 0 0] 34 (0, 0))
  n2 : wr.heap[w.heap.size + 1 + 1]? = some (.cells #[.int .i64 0, .int .i64 0, .int .u64 0, .slice none 0 0, .slice none 0 0, .slice none 0 0, .slice none 0 0, .slice none 0 0] 28 (0, 0))
  fr : Fr [] w wr
theorem Ai.fr' {w wr W : World} {b : Nat} (h : Ai w b wr) (f : Fr [] wr W) : Ai w b W := ⟨f.at h.n0 (by simp), f.at h.n1 (by simp), f.at h.n2 (by simp), h.fr.trans f⟩
theorem Ai.new (w : World) (b : Nat) : Ai w b (((w.alloc (.cells #[.int .i64 0, .int .i64 0, .int .u64 0, .slice none 0 0, .slice none 0 0, .slice none 0 0, .slice none 0 0, .slice none 0 0] 28)).alloc (.cells #[.int .i64 0, .int .i64 5, .int .u64 0, .slice (some ⟨b, 0, none⟩) 1 1, .slice none 0 0] 34)).alloc (.cells #[.int .i64 0, .int .i64 0, .int .u64 0, .slice none 0 0, .slice none 0 0, .slice none 0 0, .slice none 0 0, .slice none 0 0] 28)) :=
  ⟨(((Fr.refl [] _).alloc _).alloc _).at (blk_new _ _) (by simp), ((Fr.refl [] _).alloc _).at (new_at _ _ (by simp)) (by simp), new_at _ _ (by simp), (((Fr.refl _ _).alloc _).alloc _).alloc _⟩
theorem ed_cells {W : World} {b k : Nat} (n : W.heap[k]? = some (.cells #[.int .i64 0, .int .i64 5, .int .u64 0, .slice (some ⟨b, 0, none⟩) 1 1, .slice none 0 0] 34 (0, 0))) : W.cell? ⟨k, 0, none⟩ = some (.int .i64 0) ∧ W.cell? ⟨k, 1, none⟩ = some (.int .i64 5) ∧ W.cell? ⟨k, 2, none⟩ = some (.int .u64 0) ∧ W.cell? ⟨k, 3, none⟩ = some (.slice (some ⟨b, 0, none⟩) 1 1) ∧ W.cell? ⟨k, 4, none⟩ = some (.slice none 0 0) :=
  ⟨by rw [blk_cell n]; rfl, by rw [blk_cell n]; rfl, by rw [blk_cell n]; rfl, by rw [blk_cell n]; rfl, by rw [blk_cell n]; rfl⟩
set_option maxRecDepth 20000 in
set_option maxHeartbeats 3200000 in
theorem follow0_c (w : World) (b : Nat) (hb : w.heap[b]? = some (.cells #[.int .i64 0, .int .i64 1] 47 (0, 0))) : Calls Tryd.prog 16 #[.agg #[.int .i64 0, .int .i64 0, .int .u64 0, .slice none 0 0, .slice none 0 0, .slice none 0 0, .slice none 0 0, .slice none 0 0], .agg #[.int .i64 0, .int .i64 5, .int .u64 0, .slice (some ⟨b, 0, none⟩) 1 1, .slice none 0 0]] w fun r w' => r = .returned (.tuple #[.agg #[.int .i64 0, .int .i64 0, .int .u64 0, .slice none 0 0, .slice none 0 0, .slice none 0 0, .slice none 0 0, .slice none 0 0], .int .i64 91]) ∧ Fr [] w w' := by
  obtain ⟨W0, hW0⟩ : ∃ W0, W0 = ((w.alloc (.cells #[.int .i64 0, .int .i64 0, .int .u64 0, .slice none 0 0, .slice none 0 0, .slice none 0 0, .slice none 0 0, .slice none 0 0] 28)).alloc (.cells #[.int .i64 0, .int .i64 5, .int .u64 0, .slice (some ⟨b, 0, none⟩) 1 1, .slice none 0 0] 34)).alloc (.cells #[.int .i64 0, .int .i64 0, .int .u64 0, .slice none 0 0, .slice none 0 0, .slice none 0 0, .slice none 0 0, .slice none 0 0] 28) := ⟨_, rfl⟩
  have I0 : Hid (Ai w b W0) := hid (by rw [hW0]; exact Ai.new w b)
  have WO := hid (without0_c W0 b (I0.out.fr.at hb (by simp)))
  clear hb
  obtain ⟨z0, z1, z2, z3, z4, z5, z6, z7⟩ := vz_cells I0.out.n0
  obtain ⟨x0, x1, x2, x3, x4⟩ := ed_cells I0.out.n1
  go_enter Tryd.func16, Tryd.ntmps16
  go_upto_region 1 with fail
  rw [← hW0]
  clear hW0
  go_upto_region 2 with (go_at_call 30; refine WO.out.mono ?_; rintro r W1 ⟨rfl, f1⟩; have F1 := hid f1; clear f1)
  clear z0 z1 z2 z3 z4 z5 z6 z7 x0 x1 x2 x3 x4 WO
  obtain ⟨W2, hW2⟩ : ∃ W2, W2 = W1.alloc (.cells #[.slice none 0 0, .slice none 0 0, .slice none 0 0, .slice none 0 0, .slice none 0 0] 26) := ⟨_, rfl⟩
  have I2 := hid ((I0.out.fr' F1.out).fr' (W := W2) (by rw [hW2]; exact (Fr.refl _ _).alloc _))
  rw [← hW2]
  clear hW2 I0 F1
  obtain ⟨z0, z1, z2, z3, z4, z5, z6, z7⟩ := vz_cells I2.out.n2
  have qf0 := blk_frozen I2.out.n2 0
  have qf1 := blk_frozen I2.out.n2 1
  have qf2 := blk_frozen I2.out.n2 2
  have qf3 := blk_frozen I2.out.n2 3
  have qf4 := blk_frozen I2.out.n2 4
  have qf5 := blk_frozen I2.out.n2 5
  have qf6 := blk_frozen I2.out.n2 6
  have qf7 := blk_frozen I2.out.n2 7
  go_wp2_with fail
  refine bodyPost_ret (ret_ct9 rfl (g := w.heap.size + 1 + 1) (by simp) (load46 (by rw [blk_set (blk_set (blk_set (blk_set (blk_set (blk_set (blk_set (blk_set I2.out.n2 0 _) 1 _) 2 _) 3 _) 4 _) 5 _) 6 _) 7 _]; rfl))) rfl ?_
  exact ⟨rfl, ((((((((I2.out.fr.set _ _ (.inr (by omega))).set _ _ (.inr (by omega))).set _ _ (.inr (by omega))).set _ _ (.inr (by omega))).set _ _ (.inr (by omega))).set _ _ (.inr (by omega))).set _ _ (.inr (by omega))).set _ _ (.inr (by omega)))⟩
set_option maxRecDepth 20000 in
set_option maxHeartbeats 3200000 in
theorem apply0_c (w : World) (b : Nat) (hb : w.heap[b]? = some (.cells #[.int .i64 0, .int .i64 1] 47 (0, 0))) : Calls Tryd.prog 7 #[.agg #[.int .i64 0, .int .i64 0, .int .u64 0, .slice none 0 0, .slice none 0 0, .slice none 0 0, .slice none 0 0, .slice none 0 0], .agg #[.int .i64 0, .int .i64 5, .int .u64 0, .slice (some ⟨b, 0, none⟩) 1 1, .slice none 0 0]] w fun r w' => r = .returned (.tuple #[.agg #[.int .i64 0, .int .i64 0, .int .u64 0, .slice none 0 0, .slice none 0 0, .slice none 0 0, .slice none 0 0, .slice none 0 0], .int .i64 91]) ∧ Fr [] w w' := by
  obtain ⟨W0, hW0⟩ : ∃ W0, W0 = ((w.alloc (.cells #[.int .i64 0, .int .i64 0, .int .u64 0, .slice none 0 0, .slice none 0 0, .slice none 0 0, .slice none 0 0, .slice none 0 0] 28)).alloc (.cells #[.int .i64 0, .int .i64 5, .int .u64 0, .slice (some ⟨b, 0, none⟩) 1 1, .slice none 0 0] 34)).alloc (.cells #[.int .i64 0, .int .i64 0, .int .u64 0, .slice none 0 0, .slice none 0 0, .slice none 0 0, .slice none 0 0, .slice none 0 0] 28) := ⟨_, rfl⟩
  have I0 : Hid (Ai w b W0) := hid (by rw [hW0]; exact Ai.new w b)
  have HB := hid hb
  have CK := hid (check0_c W0)
  have ED : Hid (∀ W, Fr [] w W → Calls Tryd.prog 11 #[.agg #[.int .i64 0, .int .i64 5, .int .u64 0, .slice (some ⟨b, 0, none⟩) 1 1, .slice none 0 0]] W fun r w' => r = .returned (.bool true) ∧ Fr [] W w') := hid (fun W fr => by
    have hb' := fr.at HB.out (by simp)
    have h1 := edit_c W (e := ⟨0, 5, 0, [(0, 1)], []⟩) (da := some ⟨b, 0, none⟩) (dc := 1) (aa := none) (ac := 0) ⟨⟨_, _, rfl, fun _ => ⟨b, 0, rfl, fun j g hj => by
      cases j with
      | zero => simp at hj; subst hj; exact ⟨by rw [Nat.zero_mul, blk_cell hb']; rfl, by rw [Nat.zero_mul, blk_cell hb']; rfl⟩
      | succ j => simp at hj⟩⟩, ⟨none, 0, rfl, fun h => by simp at h⟩, by simp, by simp⟩
    have hk : okE ⟨0, 5, 0, [(0, 1)], []⟩ = true := by decide
    rw [hk] at h1
    exact h1)
  clear hb
  obtain ⟨z0, z1, z2, z3, z4, z5, z6, z7⟩ := vz_cells I0.out.n0
  go_enter Tryd.func7, Tryd.ntmps7
  go_upto_region 1 with fail
  rw [← hW0]
  clear hW0
  go_upto_region 4 with (go_at_call 15; refine CK.out.mono ?_; rintro r W1 ⟨rfl, f1⟩; have I1 := hid (I0.out.fr' f1); clear f1)
  clear z0 z1 z2 z3 z4 z5 z6 z7 I0 CK
  obtain ⟨x0, x1, x2, x3, x4⟩ := ed_cells I1.out.n1
  have ED1 := hid (ED.out W1 I1.out.fr)
  go_upto_region 6 with (go_at_call 11; refine ED1.out.mono ?_; rintro r W2 ⟨rfl, f2⟩; have I2 := hid (I1.out.fr' f2); clear f2)
  clear x0 x1 x2 x3 x4 I1 ED1 ED
  obtain ⟨z0, z1, z2, z3, z4, z5, z6, z7⟩ := vz_cells I2.out.n0
  obtain ⟨x0, x1, x2, x3, x4⟩ := ed_cells I2.out.n1
  have FO := hid (follow0_c W2 b (I2.out.fr.at HB.out (by simp)))
  go_upto_region 7 with (go_at_call 16; refine FO.out.mono ?_; rintro r W3 ⟨rfl, f3⟩; have I3 := hid (I2.out.fr' f3); clear f3)
  clear z0 z1 z2 z3 z4 z5 z6 z7 x0 x1 x2 x3 x4 FO I2
  obtain ⟨W4, hW4⟩ : ∃ W4, W4 = W3.alloc (.cells #[.int .i64 0, .int .i64 0, .int .u64 0, .slice none 0 0, .slice none 0 0, .slice none 0 0, .slice none 0 0, .slice none 0 0] 28) := ⟨_, rfl⟩
  have I4 := hid (I3.out.fr' (W := W4) (by rw [hW4]; exact (Fr.refl _ _).alloc _))
  rw [← hW4]
  clear hW4 I3
  obtain ⟨z0, z1, z2, z3, z4, z5, z6, z7⟩ := vz_cells I4.out.n2
  have qf0 := blk_frozen I4.out.n2 0
  have qf1 := blk_frozen I4.out.n2 1
  have qf2 := blk_frozen I4.out.n2 2
  have qf3 := blk_frozen I4.out.n2 3
  have qf4 := blk_frozen I4.out.n2 4
  have qf5 := blk_frozen I4.out.n2 5
  have qf6 := blk_frozen I4.out.n2 6
  have qf7 := blk_frozen I4.out.n2 7
  go_wp2_with fail
  refine bodyPost_ret (ret_ct9 rfl (g := w.heap.size + 1 + 1) (by simp) (load46 (by rw [blk_set (blk_set (blk_set (blk_set (blk_set (blk_set (blk_set (blk_set I4.out.n2 0 _) 1 _) 2 _) 3 _) 4 _) 5 _) 6 _) 7 _]; rfl))) rfl ?_
  exact ⟨rfl, ((((((((I4.out.fr.set _ _ (.inr (by omega))).set _ _ (.inr (by omega))).set _ _ (.inr (by omega))).set _ _ (.inr (by omega))).set _ _ (.inr (by omega))).set _ _ (.inr (by omega))).set _ _ (.inr (by omega))).set _ _ (.inr (by omega)))⟩
theorem enc12 : encE ⟨1, 2, 0, [], []⟩ = [1, 2, 0, 0, 0] := by decide
set_option maxRecDepth 20000 in
set_option maxHeartbeats 3200000 in
theorem known9_c (w : World) : Calls Tryd.prog 4 #[] w fun r w' => r = .returned (.bool true) ∧ Fr [] w w' := by
  have EC := hid (enc_ok w (e := ⟨1, 2, 0, [], []⟩) (da := none) (dc := 0) (aa := none) (ac := 0) ⟨⟨none, 0, rfl, fun h => by simp at h⟩, ⟨none, 0, rfl, fun h => by simp at h⟩, by simp, by simp⟩ (by decide) (by simp) (by simp))
  rw [enc12] at EC
  simp only [List.length_nil, List.length_cons, Nat.zero_add, Nat.reduceAdd] at EC
  have AP : Hid (∀ (W : World) (b : Nat), W.heap[b]? = some (.cells #[.int .i64 0, .int .i64 1] 47 (0, 0)) → _) := hid (fun W b hb => apply0_c W b hb)
  go_enter Tryd.func4, Tryd.ntmps4
  go_upto_region 2 with (go_at_call 6; refine EC.out.mono ?_; rintro r W1 ⟨v1, rfl, o1, f1⟩; obtain ⟨a1, c1, hv1, _⟩ := ownsRow_slice o1; subst hv1; have F1 := hid f1; have O1 := hid (Rd.ownB (ns := [1, 2, 0, 0, 0]) o1); clear f1 o1)
  clear EC
  have APW := hid (AP.out (W1.alloc (.cells #[.int .i64 0, .int .i64 1] 47)) W1.heap.size (blk_new _ _))
  have FA : Hid (Fr [] W1 (W1.alloc (.cells #[.int .i64 0, .int .i64 1] 47))) := hid ((Fr.refl _ _).alloc _)
  clear AP
  go_upto_region 3 with (go_at_call 7; refine APW.out.mono ?_; rintro r W2 ⟨rfl, f2⟩; have F2 := hid (FA.out.trans f2); clear f2)
  obtain ⟨W3, hW3⟩ : ∃ W3, W3 = W2.alloc (.cells #[.int .i64 0, .int .i64 0, .int .u64 0, .slice none 0 0, .slice none 0 0, .slice none 0 0, .slice none 0 0, .slice none 0 0] 28) := ⟨_, rfl⟩
  have F3 := hid (F2.out.trans (c := W3) (by rw [hW3]; exact (Fr.refl _ _).alloc _))
  rw [← hW3]
  clear hW3 APW FA F2
  have hcv := run_conv (O1.out.fr F3.out)
  have hst : (strOf [1, 2, 0, 0, 0]) = ⟨#[1, 2, 0, 0, 0]⟩ := by decide
  rw [hst] at hcv
  go_wp2
  go_ret
  exact ⟨rfl, F1.out.trans F3.out⟩
end Go.Proofs.YtmhhdlcdfgahkaaDoor
namespace Go.Proofs.YtmhhdlcdfgahkaaDoor
open Go.ChangeShapes Go.WideShapes Go.ChangeAt Go.RowKit

theorem step_buildG {ops : Array Oper} {o : Oper} {a : Act} {w : World} {K : Act → World → Prop} {Q : Exit → Act → World → Prop} {E : Prop} (hg : o.guard = none) (y : Operand) (hop : o.op = Op.buildSlice 31 1 #[(0, y)]) {g1 g2 : Int} (hx : a.eval y = .agg #[.int .i64 g1, .int .i64 g2])
    (hK : K (a.put o.dst (.slice (some ⟨w.heap.size, 0, none⟩) 1 1)) (w.alloc (.cells #[.int .i64 g1, .int .i64 g2] 47))) :
    if Region.wanted o (yielded ops a.tmps) = true then Oper.wp Tryd.prog o a w K Q else E := by
  have hw : Region.wanted o (yielded ops a.tmps) = true := by simp [Region.wanted, hg]
  rw [if_pos hw]
  unfold Oper.wp
  simp [execOp, hop, hx]
  go_simp
  exact hK
theorem step_appG {ops : Array Oper} {o : Oper} {a : Act} {w : World} {K : Act → World → Prop} {Q : Exit → Act → World → Prop} {E : Prop} (hg : o.guard = none) (s y : Operand) (hop : o.op = Op.call { callee := Callee.builtin Builtin.append, args := #[s, y], argTypes := #[31, 31] }) (base : Nat) {ad : Option Addr} {n c : Nat} {gs : List (Int × Int)} (hn : n = gs.length) (hs : a.eval s = .slice ad n c) (hown : w.ownsRow base 47 2 (.slice ad n c) gs.length (cellsD gs)) {G : Nat} (hx : a.eval y = .slice (some ⟨G, 0, none⟩) 1 1) {g1 g2 : Int} (hG : w.heap[G]? = some (.cells #[.int .i64 g1, .int .i64 g2] 47 (0, 0)))
    (hl : n ≤ 100000) (hbase : base ≤ w.heap.size)
    (hK : ∀ a' c' w', w'.ownsRow base 47 2 (.slice a' (n + 1) c') (gs ++ [(g1, g2)]).length (cellsD (gs ++ [(g1, g2)])) → w.grownBy w' (Value.slice ad n c).ownBlock → K (a.put o.dst (.slice a' (n + 1) c')) w') :
    if Region.wanted o (yielded ops a.tmps) = true then Oper.wp Tryd.prog o a w K Q else E := by
  obtain ⟨i0, hi0, hz0, hz1, hz2⟩ := info_parts9 infoGone
  subst hn
  refine step_append_own hg s y 31 hop base 47 i0 _ 2 16 Tryd.underlying31 hi0 hz0 hz1 hz2 rfl (by decide) _ gs.length (cellsD gs) hs hown ⟨G, 0, none⟩ 1 1 [.int .i64 g1, .int .i64 g2] hx rfl (fun j u hj => by rw [Addr.add_lit, Nat.zero_add, blk_cell hG, ← Array.getElem?_toList]; exact hj) (fun u hu => by simp at hu; rcases hu with rfl | rfl <;> rfl) (by unfold maxLen; omega) (by omega) hbase (fun v' w' o' g' q' => ?_)
  obtain ⟨a', c', rfl, _⟩ := ownsRow_slice o'
  refine hK a' c' w' ?_ g'
  rw [cellsD_snoc, List.length_append]
  exact o'
/-- What Apply answers, in one form. -/
structure AFm (w w' : World) (v : Vn) (e : Ed) (a0 a1 a2 : Int) (kd : Nat → Option Addr) (kl kc : Nat → Nat) (c : Int) : Prop where
  fr : Fr [] w w'
  out : c ≠ 0 ∨ (c = 0 ∧ ∃ U, (a0 = e.log ∧ a1 = e.next ∧ a2 = (e.seq : Int)) ∧ chkV v = 0 ∧ okE e = true ∧ okA9 v e U ∧ OwnV w.heap.size w' U kd kl kc)
theorem AOut.form {w w' : World} {v : Vn} {e : Ed} {r : Ending} (h : AOut w w' v e r) : ∃ a0 a1 a2 kd kl kc c, r = .returned (.tuple #[.agg #[.int .i64 a0, .int .i64 a1, .int .u64 a2, .slice (kd 0) (kl 0) (kc 0), .slice (kd 1) (kl 1) (kc 1), .slice (kd 2) (kl 2) (kc 2), .slice (kd 3) (kl 3) (kc 3), .slice (kd 4) (kl 4) (kc 4)], .int .i64 c]) ∧ AFm w w' v e a0 a1 a2 kd kl kc c := by
  rcases h.out with ⟨h1, rfl⟩ | ⟨h1, h2, rfl⟩ | ⟨h1, h2, ⟨c, h3, h4, rfl⟩ | ⟨U, kd, kl, kc, h3, rfl, h4⟩⟩
  · exact ⟨0, 0, 0, fun _ => none, fun _ => 0, fun _ => 0, _, rfl, h.fr, .inl h1⟩
  · exact ⟨0, 0, 0, fun _ => none, fun _ => 0, fun _ => 0, _, rfl, h.fr, .inl (by omega)⟩
  · exact ⟨0, 0, 0, fun _ => none, fun _ => 0, fun _ => 0, _, rfl, h.fr, .inl h4⟩
  · exact ⟨_, _, _, kd, kl, kc, 0, rfl, h.fr, .inr ⟨rfl, U, ⟨rfl, rfl, rfl⟩, h1, h2, h3, h4⟩⟩
theorem VAt.congr {w : World} {L L' : Nat → List Fl} {ad : Nat → Option Addr} {ln ln' cp : Nat → Nat} (h : VAt w L ad ln cp) (h1 : ∀ i, i < 5 → L i = L' i) (h2 : ∀ i, i < 5 → ln i = ln' i) : VAt w L' ad ln' cp :=
  ⟨fun i hi => by rw [← h2 i hi, ← h1 i hi]; exact h.len i hi, fun i hi => by rw [← h2 i hi]; exact h.small i hi, fun i hi h0 => by rw [← h2 i hi] at h0; rw [← h1 i hi]; exact h.rd i hi h0⟩
/-- The second edit brings the first version back. -/
structure A2Out (w w' : World) (vl nx : Int) (vs : Nat) (L : Nat → List Fl) (ln : Nat → Nat) (r : Ending) : Prop where
  fr : Fr [] w w'
  out : ∃ kd kc, r = .returned (.tuple #[.agg #[.int .i64 vl, .int .i64 nx, .int .u64 (vs : Int), .slice (kd 0) (ln 0) (kc 0), .slice (kd 1) (ln 1) (kc 1), .slice (kd 2) (ln 2) (kc 2), .slice (kd 3) (ln 3) (kc 3), .slice (kd 4) (ln 4) (kc 4)], .int .i64 0]) ∧ VAt w' L kd ln kc
theorem AOut.undo {w w' : World} {v : Vn} {nx : Int} {ps : List (Int × Fl)} {U : Nat → List Fl} {ln : Nat → Nat} {r : Ending} (hu : Undo v nx ps U) (hl : ∀ i, i < 5 → ln i = (v.lv i).length) (h : AOut w w' ⟨v.log, nx, v.seq, U⟩ (dropE v nx ps) r) : A2Out w w' v.log nx v.seq v.lv ln r := by
  refine ⟨h.fr, ?_⟩
  rcases h.out with ⟨h1, _⟩ | ⟨_, h2, _⟩ | ⟨_, _, ⟨c, h3, h4, _⟩ | ⟨U2, kd, kl, kc, h3, rfl, h4⟩⟩
  · exact absurd hu.made.chk h1
  · rw [hu.ok2] at h2; cases h2
  · exfalso
    rcases h3 with ⟨h5, _⟩ | ⟨_, h5, _⟩ | ⟨_, _, U2, h5, h6, _⟩
    · exact h5 hu.cnt
    · exact hu.back2 h5
    · exact h6 (hu.chk2 h5)
  · have he : ∀ i, i < 5 → kl i = ln i := fun i hi => by
      have := h4.vat.len i hi
      rw [this, hu.back h3.comes hi, hl i hi]
    refine ⟨kd, kc, ?_, h4.vat.congr (fun i hi => hu.back h3.comes hi) he⟩
    rw [he 0 (by omega), he 1 (by omega), he 2 (by omega), he 3 (by omega), he 4 (by omega)]
    rfl
/-- The second edit, as it is made. -/
structure DS (W0 W : World) (QA Q8 : Nat) (c0 c1 c2 : Int) (gs : List (Int × Int)) (n : Nat) (gd : Option Addr) (gc : Nat) (cv : Array Value) (U : Nat → List Fl) (kd : Nat → Option Addr) (kl kc : Nat → Nat) : Prop where
  blk : W.heap[QA]? = some (.cells #[.int .i64 c0, .int .i64 c1, .int .u64 c2, .slice gd n gc, .slice none 0 0] 34 (0, 0))
  own : W.ownsRow W0.heap.size 47 2 (.slice gd n gc) gs.length (cellsD gs)
  hn : n = gs.length
  fr : Fr [] W0 W
  n8 : W.heap[Q8]? = some (.cells cv 28 (0, 0))
  ov : OwnV W0.heap.size W U kd kl kc
  ge : W0.heap.size ≤ QA
theorem OwnV.keep {B : Nat} {W W' : World} {U : Nat → List Fl} {kd : Nat → Option Addr} {kl kc : Nat → Nat} (h : OwnV B W U kd kl kc) (hk : ∀ k, k < W.heap.size → (∃ cs, W.heap[k]? = some (.cells cs 53 (0, 0))) ∨ (∃ cs, W.heap[k]? = some (.cells cs 5 (0, 0))) → W'.heap[k]? = W.heap[k]?) : OwnV B W' U kd kl kc := by
  obtain ⟨⟨Z, h1, h2, h3, h4⟩, h5, h6⟩ := h
  have ob : ∀ {e : TypeId} {s n : Nat} {v : Value} {xs : List Value}, (e = 53 ∨ e = 5) → W.ownsRow B e s v n xs → W'.ownsRow B e s v n xs := fun {e s n v xs} he o => ownsRow_of_block o fun b hb => by
    rcases o.2 with ⟨q1, _⟩ | ⟨g, cap, cur, q1, _, q3, _⟩
    · rw [q1] at hb; simp [Value.ownBlock] at hb
    · rw [q1] at hb
      simp [Value.ownBlock] at hb
      subst hb
      rcases he with rfl | rfl
      · exact hk _ (blk_lt q3) (.inl ⟨_, q3⟩)
      · exact hk _ (blk_lt q3) (.inr ⟨_, q3⟩)
  exact ⟨⟨Z, h1, h2, fun k hk' => ob (.inl rfl) (h3 k hk'), fun k hk' x hx => ⟨ob (.inr rfl) (h4 k hk' x hx).ol, ob (.inr rfl) (h4 k hk' x hx).om⟩⟩, h5, h6⟩
theorem DS.fr' {W0 W W' : World} {QA Q8 : Nat} {c0 c1 c2 : Int} {gs : List (Int × Int)} {n : Nat} {gd : Option Addr} {gc : Nat} {cv : Array Value} {U : Nat → List Fl} {kd : Nat → Option Addr} {kl kc : Nat → Nat} (h : DS W0 W QA Q8 c0 c1 c2 gs n gd gc cv U kd kl kc) (f : Fr [] W W') : DS W0 W' QA Q8 c0 c1 c2 gs n gd gc cv U kd kl kc :=
  ⟨f.at h.blk (by simp), ownsRow_fr h.own f, h.hn, h.fr.trans f, f.at h.n8 (by simp), h.ov.fr' f, h.ge⟩
theorem DS.app {W0 W W' : World} {QA Q8 : Nat} {c0 c1 c2 : Int} {gs : List (Int × Int)} {n : Nat} {gd : Option Addr} {gc : Nat} {cv : Array Value} {U : Nat → List Fl} {kd : Nat → Option Addr} {kl kc : Nat → Nat} (h : DS W0 W QA Q8 c0 c1 c2 gs n gd gc cv U kd kl kc) {g : Int × Int} {a' : Option Addr} {c' : Nat}
    (o : W'.ownsRow W0.heap.size 47 2 (.slice a' (n + 1) c') (gs ++ [g]).length (cellsD (gs ++ [g]))) (gr : W.grownBy W' (Value.slice gd n gc).ownBlock) :
    W'.heap[QA]? = some (.cells #[.int .i64 c0, .int .i64 c1, .int .u64 c2, .slice gd n gc, .slice none 0 0] 34 (0, 0)) ∧ Fr [] W0 W' ∧ DS W0 (W'.setCell ⟨QA, 3, none⟩ (.slice a' (n + 1) c')) QA Q8 c0 c1 c2 (gs ++ [g]) (n + 1) a' c' cv U kd kl kc := by
  have kb : ∀ {k : Nat} {cs : Array Value} {T : TypeId}, T ≠ 47 → W.heap[k]? = some (.cells cs T (0, 0)) → W'.heap[k]? = W.heap[k]? := fun {k cs T} hT hk => gr.block k (blk_lt hk) (fun e => own_not h.own hk hT e.symm)
  have hq : W'.heap[QA]? = some (.cells #[.int .i64 c0, .int .i64 c1, .int .u64 c2, .slice gd n gc, .slice none 0 0] 34 (0, 0)) := by rw [kb (by decide) h.blk]; exact h.blk
  have h8 : W'.heap[Q8]? = some (.cells cv 28 (0, 0)) := by rw [kb (by decide) h.n8]; exact h.n8
  have fw : Fr [] W0 W' := h.fr.grown gr (fun k e => by
    rcases h.own.2 with ⟨q1, _⟩ | ⟨g', cap, cur, q1, q2, q3, _⟩
    · rw [q1] at e; simp [Value.ownBlock] at e
    · rw [q1] at e; simp [Value.ownBlock] at e; subst e; exact .inr q2)
  have ne8 : Q8 ≠ QA := fun e => by rw [e, hq] at h8; simp at h8
  refine ⟨hq, fw, ⟨by rw [blk_set hq]; rfl, ?_, by rw [List.length_append, h.hn]; rfl, fw.set _ _ (.inr h.ge), by rw [blk_setne _ _ _ ne8]; exact h8, ?_, h.ge⟩⟩
  · exact ownsRow_of_block o fun k hk => blk_setne _ _ _ (fun e => by subst e; exact own_not o hq (by decide) hk)
  · have o1 : OwnV W0.heap.size W' U kd kl kc := h.ov.keep (fun k hk hc => by
      rcases hc with ⟨cs, hc⟩ | ⟨cs, hc⟩
      · exact kb (by decide) hc
      · exact kb (by decide) hc)
    refine o1.keep (fun k hk hc => blk_setne _ _ _ (fun e => ?_))
    subst e
    rcases hc with ⟨cs, hc⟩ | ⟨cs, hc⟩
    · rw [hq] at hc; simp at hc
    · rw [hq] at hc; simp at hc
end Go.Proofs.YtmhhdlcdfgahkaaDoor
