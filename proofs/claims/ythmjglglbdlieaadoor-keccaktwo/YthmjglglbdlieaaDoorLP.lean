/-
  The walk of KeccakApart.
-/
import Derived.Test.YthmjglglbdlieaaDoorKK
import Derived.Test.YthmjglglbdlieaaDoorKE
import Derived.Test.YthmjglglbdlieaaDoorKI
import Derived.Deep.RegionHeld
namespace Go.Proofs.YthmjglglbdlieaaDoor
open Go.ChangeShapes Go.WideShapes Go.ChangeAt Go.RowKit

theorem alloc25 (w : World) : (Instr.alloc 36 true (.tuple #[])).run Tryd.prog w = .ok (.pointer (some ⟨w.heap.size, 0, none⟩)) (w.alloc (.cells (vals 25 (fun _ => 0)) 36)) := by kernel_rfl
/-- An array of lanes is laid into a variable. -/
theorem wpList_made25 {ops : Array Oper} {rest : List Oper} {o1 o2 : Oper} {a : Act} {w : World} {Q : Exit → Act → World → Prop} {t1 t2 : Tmp} {g : Nat → BitVec 64} (g1 : o1.guard = none) (g2 : o2.guard = none) (h1 : o1.op = .alloc 36) (h2 : o2.op = .store 36 (.tmp t1) (.tmp t2)) (d1 : o1.dst = some t1) (d2 : o2.dst = none)
    (hx : (a.put (some t1) (.pointer (some ⟨w.heap.size, 0, none⟩))).eval (.tmp t1) = .pointer (some ⟨w.heap.size, 0, none⟩)) (hy : (a.put (some t1) (.pointer (some ⟨w.heap.size, 0, none⟩))).eval (.tmp t2) = .agg (vals 25 g))
    (h : wpList Tryd.prog ops Q rest ((a.put (some t1) (.pointer (some ⟨w.heap.size, 0, none⟩))).put none undef) (w.alloc (.cells (vals 25 g) 36))) : wpList Tryd.prog ops Q (o1 :: o2 :: rest) a w := by
  refine wpList_plain g1 fun K hK => ?_
  unfold Oper.wp execOp
  simp only [h1, Sem.run_bind, alloc25, Result.andThen_ok, Sem.run_pure]
  rw [Oper.upon_value, d1]
  refine hK _ _ ?_
  refine wpList_plain g2 fun K hK => ?_
  unfold Oper.wp execOp
  have hs := stVar (g := g) (heap_alloc_last w (.cells (vals 25 (fun _ => 0)) 36))
  rw [World.setRow_alloc_new] at hs
  simp only [h2, hx, hy, Instr.storeAt, Instr.sureAddr, Sem.run_bind, Sem.run_pure, Result.andThen_ok, hs]
  rw [Oper.upon_skip, d2]
  exact hK _ _ h
theorem rangeV {w : World} {b : Nat} {f : Nat → BitVec 64} {t : TypeId} (h : w.heap[b]? = some (.cells (vals 25 f) t (0, 0))) : w.rangeAt b 0 (vals 25 f).toList := fun j v hv => by
  rw [Array.getElem?_toList] at hv
  rw [Nat.zero_add, blk_cell h, hv]

theorem range_fr {w w' : World} {b o : Nat} {cs : List Value} (h : w.rangeAt b o cs) (f : Fr [] w w') : w'.rangeAt b o cs := fun j v hv => by
  have := h j v hv
  rw [World.cell?_of_block (w := w) (f.block _ (World.block_lt_of_cell? w _ this) (by simp))]; exact this
theorem permuteL_c (w : World) (T : Tabs w) {cs : List Value} {f : Nat → BitVec 64} (h : cs.toArray = vals 25 f) :
    Calls Tryd.prog 13 #[.agg cs.toArray] w fun e w' => e = .returned (.agg (vals 25 (perm 24 f))) ∧ Fr [] w w' := by
  rw [h]; exact permute_c w T f
/-- What two arrays' loads beside calls that only make memory want: both are there, the tables too. -/
theorem keep2 {w a b : World} {b1 b2 : Nat} {c1 c2 : List Value} (h : a.rangeAt b1 0 c1 ∧ a.rangeAt b2 0 c2 ∧ Tabs a ∧ Fr [] w a) (f : Fr [] a b) : b.rangeAt b1 0 c1 ∧ b.rangeAt b2 0 c2 ∧ Tabs b ∧ Fr [] w b :=
  ⟨range_fr h.1 f, range_fr h.2.1 f, h.2.2.1.fr f, h.2.2.2.trans f⟩

set_option maxRecDepth 20000 in
set_option maxHeartbeats 800000 in
theorem apart_c (w : World) (T : Tabs w) (f : Nat → BitVec 64) (at_ : Int) (by_ : BitVec 64) :
    Calls Tryd.prog 6 #[.agg (vals 25 f), .int .i64 at_, .int .u64 (by_.toNat : Int)] w fun e w' => e = .returned (.bool true) ∧ Fr [] w w' := by
  have HT := hid T
  clear T
  by_cases hbad : at_ < 0 ∨ 24 < at_ ∨ by_.toNat = 0
  · have F0 : Hid (Fr [] w (w.alloc (.cells (vals 25 f) 36))) := (Fr.refl _ _).alloc _
    rcases (show at_ < 0 ∨ (0 ≤ at_ ∧ 24 < at_) ∨ (0 ≤ at_ ∧ at_ ≤ 24 ∧ by_.toNat = 0) by omega) with h1 | ⟨h1, h2⟩ | ⟨h1, h2, h3⟩
    · clear hbad
      go_enter Tryd.func6, Tryd.ntmps6
      go_wp2_with fail
      refine (known_c _ (HT.out.fr F0.out)).mono ?_
      rintro e w2 ⟨rfl, f2⟩
      have F2 := hid (F0.out.trans f2)
      clear f2 F0
      go_wp2
      go_ret
      exact ⟨rfl, F2.out⟩
    · clear hbad
      go_enter Tryd.func6, Tryd.ntmps6
      go_wp2_with fail
      refine (known_c _ (HT.out.fr F0.out)).mono ?_
      rintro e w2 ⟨rfl, f2⟩
      have F2 := hid (F0.out.trans f2)
      clear f2 F0
      go_wp2
      go_ret
      exact ⟨rfl, F2.out⟩
    · have hz : (((by_.toNat : Nat) : Int) == 0) = true := by rw [h3]; rfl
      clear hbad h3
      go_enter Tryd.func6, Tryd.ntmps6
      go_wp2_with fail
      refine (known_c _ (HT.out.fr F0.out)).mono ?_
      rintro e w2 ⟨rfl, f2⟩
      have F2 := hid (F0.out.trans f2)
      clear f2 F0
      go_wp2
      go_ret
      exact ⟨rfl, F2.out⟩
  · obtain ⟨k, rfl⟩ : ∃ k : Nat, at_ = (k : Int) := ⟨at_.toNat, by omega⟩
    have hk : k < 25 := by omega
    have hby : 0 < by_.toNat := by omega
    clear hbad
    have hby2 : (((by_.toNat : Nat) : Int) == 0) = false := by simp; omega
    go_enter Tryd.func6, Tryd.ntmps6
    go_wp2_with fail
    have HB : Hid ((w.alloc (.cells (vals 25 f) 36)).heap[w.heap.size]? = some (.cells (vals 25 f) 36 (0, 0))) := blk_new _ _
    have HF : Hid (Fr [] w (w.alloc (.cells (vals 25 f) 36))) := (Fr.refl _ _).alloc _
    generalize w.alloc (.cells (vals 25 f) 36) = w1 at HB HF ⊢
    refine (known_c w1 (HT.out.fr HF.out)).mono ?_
    rintro e w2 ⟨rfl, f2⟩
    have HB2 := hid (f2.at HB.out (by simp))
    have HF2 := hid (HF.out.trans f2)
    clear f2 HB HF
    go_upto_region 5 with fail
    apply wp_region_lit
    refine wpList_ld rfl (.tmp 3) rfl HB2.out (by simp [Act.eval]) ?_
    refine wpList_made25 (t1 := 7) (t2 := 20) (g := f) rfl rfl rfl rfl rfl rfl (by simp [Act.eval, Act.put]) (by simp [Act.eval, Act.put]) ?_
    have HN : Hid ((w2.alloc (.cells (vals 25 f) 36)).heap[w2.heap.size]? = some (.cells (vals 25 f) 36 (0, 0))) := blk_new _ _
    have HB3 := hid ((blk_old w2 (.cells (vals 25 f) 36) (blk_lt HB2.out)).trans HB2.out)
    have HF3 := hid (HF2.out.alloc (.cells (vals 25 f) 36))
    have hlt := blk_lt HB2.out
    have hle := HF2.out.size
    clear HB2 HF2
    generalize w2.alloc (.cells (vals 25 f) 36) = w3 at HN HB3 HF3 ⊢
    generalize w2.heap.size = C at HN hlt hle ⊢
    have e0 := lane_at HN.out hk
    have fz := blk_frozen HN.out
    have hx := bits_xor (f k) by_
    obtain ⟨y, hy⟩ : ∃ y, y = f k ^^^ by_ := ⟨_, rfl⟩
    rw [← hy] at hx
    have HY := hid hy
    clear hy
    go_upto_region 7 with fail
    have HN4 := hid (blk_up HN.out k y)
    have HB4 := hid ((blk_setne w3 k (.int .u64 (y.toNat : Int)) (show w.heap.size ≠ C by omega)).trans HB3.out)
    have HF4 := hid (HF3.out.set (p := C) k (.int .u64 (y.toNat : Int)) (.inr hle))
    clear HN HB3 HF3 e0 fz hx
    generalize w3.setCell ⟨C, k, none⟩ (.int .u64 (y.toNat : Int)) = w4 at HN4 HB4 HF4 ⊢
    have HD : Hid (∃ i, i < 25 ∧ perm 24 f i ≠ perm 24 (up f k y) i) := by
      refine Classical.byContradiction fun hne => ?_
      have hall : ∀ i, i < 25 → perm 24 f i = perm 24 (up f k y) i := fun i hi => Classical.byContradiction fun h => hne ⟨i, hi, h⟩
      have := perm_inj 24 hall k hk
      rw [up_same, HY.out] at this
      have h0 : by_ = 0 := by
        have h2 := congrArg (f k ^^^ ·) this
        simp only [← BitVec.xor_assoc, BitVec.xor_self, BitVec.zero_xor] at h2
        exact h2.symm
      rw [h0] at hby
      exact absurd hby (by decide)
    have hcmp : ∀ wx : World, (Op.equalIn 10000 36 (.agg (vals 25 (perm 24 f))) (.agg (vals 25 (perm 24 (up f k y))))).run Tryd.prog wx = .ok false wx := fun wx => neIn25 wx _ _ HD.out
    have hgd := guard25
    have hu := Tryd.underlying36
    have H0 := hid (show (w4.drew.rangeAt w.heap.size 0 (vals 25 f).toList ∧ w4.drew.rangeAt C 0 (vals 25 (up f k y)).toList ∧ Tabs w4.drew ∧ Fr [] w w4.drew) from ⟨rangeV HB4.out, rangeV HN4.out, HT.out.fr HF4.out.drew, HF4.out.drew⟩)
    obtain ⟨c1, hc1⟩ : ∃ c1, c1 = (vals 25 f).toList := ⟨_, rfl⟩
    obtain ⟨c2, hc2⟩ : ∃ c2, c2 = (vals 25 (up f k y)).toList := ⟨_, rfl⟩
    rw [← hc1, ← hc2] at H0
    have A1 := hid (show c1.toArray = vals 25 f by rw [hc1, Array.toArray_toList])
    have A2 := hid (show c2.toArray = vals 25 (up f k y) by rw [hc2, Array.toArray_toList])
    have hi1 : (Tryd.prog.info? 36).map (·.size) = some c1.length := by rw [hc1, Array.length_toList, vals_size]; exact info25
    have hi2 : (Tryd.prog.info? 36).map (·.size) = some c2.length := by rw [hc2, Array.length_toList, vals_size]; exact info25
    clear hc1 hc2 HB4 HN4 HF4 HD HY hlt hle hby hby2
    refine wp_region_held_drew (S := fun w' => w'.rangeAt w.heap.size 0 c1 ∧ w'.rangeAt C 0 c2 ∧ Tabs w' ∧ Fr [] w w') (by kernel_rfl) H0.out (fun hH => ?_)
    refine wpAnyH_take (i := 0) (v := .agg c1.toArray) rfl (by kernel_rfl) (by kernel_rfl) (by kernel_rfl) (fun _ _ _ h => h) (yieldsIf_load_mid (by rfl) 36 (.tmp 3) rfl w.heap.size 0 rfl c1 _ (fun _ h => h.1) hu rfl hi1) hH ?_
    simp only [Act.put]
    refine wpAnyH_take (i := 2) (v := .agg c2.toArray) rfl (by kernel_rfl) (by kernel_rfl) (by kernel_rfl) (fun _ _ _ h => h) (yieldsIf_load_mid (by rfl) 36 (.tmp 7) rfl C 0 rfl c2 _ (fun _ h => h.2.1) hu rfl hi2) hH ?_
    simp only [Act.put]
    refine wpAnyH_ready (rs := [1]) (by kernel_rfl) (by simp) ?_
    refine AllReadyH.cons rfl (fun K hK => ?_) AllReadyH.nil
    have HH := hid hH
    clear hH
    go_simp
    refine (permuteL_c _ HH.out.2.2.1 A1.out).mono ?_
    rintro e wa ⟨rfl, fa⟩
    refine hK.out _ _ (keep2 HH.out fa) (fun hH2 => ?_)
    have HH2 := hid hH2
    clear hK K hH2 fa
    refine wpAnyH_ready (rs := [3]) (by kernel_rfl) (by simp) ?_
    refine AllReadyH.cons rfl (fun K hK => ?_) AllReadyH.nil
    go_simp
    refine (permuteL_c _ HH2.out.2.2.1 A2.out).mono ?_
    rintro e wb ⟨rfl, fb⟩
    refine hK.out _ _ (keep2 HH2.out fb) (fun hH3 => ?_)
    have HF5 := hid hH3.2.2.2
    have HH3 := hid hH3
    clear hK K hH3 fb
    refine wpAnyH_ready (rs := [4]) (by kernel_rfl) (by simp) ?_
    refine AllReadyH.cons rfl (fun K hK => ?_) AllReadyH.nil
    go_simp
    refine hK.out _ _ HH3.out (fun _ => ?_)
    clear hK K
    refine wpAnyH_ready (rs := [5]) (by kernel_rfl) (by simp) ?_
    refine AllReadyH.cons rfl (fun K hK => ?_) AllReadyH.nil
    go_simp
    refine hK.out _ _ HH3.out (fun _ => ?_)
    clear hK K
    refine wpAnyH_done (by kernel_rfl) ?_ _
    clear hcmp hgd hu hi1 hi2
    go_wp2
    go_ret
    exact ⟨rfl, HF5.out⟩
end Go.Proofs.YthmjglglbdlieaaDoor
