/-
  What mixColumns answers.
-/
import Derived.Test.YtdcocgjlfhicaaaDoorKV
import Derived.Test.YtdcocgjlfhicaaaDoorJ23
import Derived.Test.YtdcocgjlfhicaaaDoorKM
namespace Go.Proofs.YtdcocgjlfhicaaaDoor
open Go.ChangeShapes Go.WideShapes Go.ChangeAt Go.RowKit

def colTo (f : Nat → BitVec 64) (k : Nat) : Nat → BitVec 64 := fun x => if x < k then col f x else 0
def thTo (f : Nat → BitVec 64) (x : Nat) : Nat → BitVec 64 := fun i => if i % 5 < x then theta f i else f i
def thIn (f : Nat → BitVec 64) (x p : Nat) : Nat → BitVec 64 := fun i => if i % 5 < x ∨ (i % 5 = x ∧ i < p) then theta f i else f i

set_option maxRecDepth 20000 in
set_option maxHeartbeats 400000 in
theorem mixColumns_c (w : World) (f : Nat → BitVec 64) :
    Calls Tryd.prog 115 #[.agg (vals 25 f)] w fun e w' => e = .returned (.agg (vals 25 (theta f))) ∧ Fr [] w w' := by
  go_enter Tryd.func115, Tryd.ntmps115
  go_wp2
  go_loopw [8] (fun v8 wr => ∃ k : Nat, k ≤ 5 ∧ v8 = .int .i64 (k : Int) ∧ wr.heap[w.heap.size]? = some (.cells (vals 25 f) 76 (0, 0)) ∧ (∃ z, wr.heap[w.heap.size + 1]? = some (.cells (vals 25 z) 76 (0, 0))) ∧ wr.heap[w.heap.size + 2]? = some (.cells (vals 5 (colTo f k)) 118 (0, 0)) ∧ Fr [] w wr) (fun v8 _ => 5 - (intOf v8).toNat)
  case atStart =>
    refine ⟨0, by omega, rfl, ?_, ⟨fun _ => 0, ?_⟩, ?_, (((Fr.refl _ _).alloc _).alloc _).alloc _⟩
    · rw [blk_old _ _ (by simp; omega), blk_old _ _ (by simp), blk_new]
    · rw [blk_old _ _ (by simp)]; exact new_at _ _ (by simp)
    · exact new_at _ _ (by simp)
  case round =>
    obtain ⟨k, hk, rfl, hb, ⟨z, hz⟩, hc, hfr⟩ := hrel
    have HB := hid hb
    have HZ := hid hz
    have HC := hid hc
    have HF := hid hfr
    clear hz hfr
    by_cases hlt : k < 5
    · have e0 := lane_at hb (i := k) (by omega)
      have e1 := lane_at hb (i := k + 5) (by omega)
      have e2 := lane_at hb (i := k + 10) (by omega)
      have e3 := lane_at hb (i := k + 15) (by omega)
      have e4 := lane_at hb (i := k + 20) (by omega)
      have e5 := lane_at hc (i := k) (by omega)
      have fz := blk_frozen hc
      clear hb hc
      go_wp2
      go_region
      go_wp2
      go_roundw
      case rel =>
        simp only [bits_xor]
        refine ⟨k + 1, by omega, by go_num, ?_, ⟨z, ?_⟩, ?_, ?_⟩
        · exact (blk_drew _ _).trans ((blk_setne _ _ _ (by omega)).trans HB.out)
        · exact (blk_drew _ _).trans ((blk_setne _ _ _ (by omega)).trans HZ.out)
        · refine (blk_drew _ _).trans ((blk_up HC.out k _).trans (congrArg (fun c => some (Obj.cells c 118 (0, 0))) (vals_congr fun i hi => ?_)))
          unfold up colTo
          by_cases g : i = k
          · rw [if_pos g, if_pos (by omega), g]; rfl
          · rw [if_neg g]
            by_cases g1 : i < k
            · rw [if_pos g1, if_pos (by omega)]
            · rw [if_neg g1, if_neg (by omega)]
        · exact (HF.out.set _ _ (.inr (by omega))).drew
      case measure => simp [intOf]; omega
    · have hk5 : k = 5 := by omega
      subst hk5
      have HC5 : Hid (wr.heap[w.heap.size + 2]? = some (.cells (vals 5 (col f)) 118 (0, 0))) := by
        refine HC.out.trans (congrArg (fun c => some (Obj.cells c 118 (0, 0))) (vals_congr fun i hi => ?_))
        unfold colTo; rw [if_pos hi]
      clear hb hc HC
      go_wp2
      go_loopw [37] (fun v37 wr => ∃ x : Nat, x ≤ 5 ∧ v37 = .int .i64 (x : Int) ∧ wr.heap[w.heap.size]? = some (.cells (vals 25 (thTo f x)) 76 (0, 0)) ∧ wr.heap[w.heap.size + 1]? = some (.cells (vals 25 z) 76 (0, 0)) ∧ wr.heap[w.heap.size + 2]? = some (.cells (vals 5 (col f)) 118 (0, 0)) ∧ Fr [] w wr) (fun v37 _ => 5 - (intOf v37).toNat)
      case atStart =>
        exact ⟨0, by omega, rfl, HB.out.trans (congrArg (fun c => some (Obj.cells c 76 (0, 0))) (vals_congr fun i hi => by unfold thTo; rw [if_neg (by omega)])), HZ.out, HC5.out, HF.out⟩
      case round =>
        clear HB HZ HC5 HF
        rename_i wx hrel
        obtain ⟨x, hx, rfl, hb, hz, hc, hfr⟩ := hrel
        have HB := hid hb
        have HZ := hid hz
        have HC := hid hc
        have HF := hid hfr
        clear hz hfr
        by_cases hlt : x < 5
        · have e0 := lane_at hc (i := (x + 4) % 5) (by omega)
          have e1 := lane_at hc (i := (x + 1) % 5) (by omega)
          have hbo : bits .xor .u64 ((col f ((x + 4) % 5)).toNat : Int) ((rl (col f ((x + 1) % 5)) 1).toNat : Int) = ((both f x).toNat : Int) := bits_xor _ _
          clear hb hc
          go_wp2
          go_quiet ((go_at_call 119; exact Calls.quiet_of_same (rotate1_c _ _)))
          go_wp2
          go_loopw [7] (fun v7 wr => ∃ p : Nat, p % 5 = x ∧ p < 30 ∧ v7 = .int .i64 (p : Int) ∧ wr.heap[w.heap.size]? = some (.cells (vals 25 (thIn f x p)) 76 (0, 0)) ∧ wr.heap[w.heap.size + 1]? = some (.cells (vals 25 z) 76 (0, 0)) ∧ wr.heap[w.heap.size + 2]? = some (.cells (vals 5 (col f)) 118 (0, 0)) ∧ Fr [] w wr) (fun v7 _ => 25 - (intOf v7).toNat)
          case atStart =>
            refine ⟨x, by omega, by omega, rfl, ?_, ?_, ?_, ?_⟩
            · rw [blk_drewN]
              exact blk_as HB.out fun i hi => by
                unfold thTo thIn
                by_cases g : i % 5 < x
                · rw [if_pos g, if_pos (.inl g)]
                · rw [if_neg g, if_neg (by rintro (h | ⟨h1, h2⟩) <;> omega)]
            · rw [blk_drewN]; exact HZ.out
            · rw [blk_drewN]; exact HC.out
            · exact HF.out.drewN _
          case round =>
            clear HB HZ HC HF e0 e1 hbo
            rename_i wy hrel
            obtain ⟨p, hp5, hp, rfl, hb, hz, hc, hfr⟩ := hrel
            have HB := hid hb
            have HZ := hid hz
            have HC := hid hc
            have HF := hid hfr
            have H5 := hid hp5
            clear hz hfr hc hp5
            by_cases hlp : p < 25
            · have e0 := lane_at hb (i := p) hlp
              have fz := blk_frozen hb
              have hv : bits .xor .u64 ((thIn f x p p).toNat : Int) ((both f x).toNat : Int) = ((theta f p).toNat : Int) := by
                have : thIn f x p p = f p := by unfold thIn; rw [if_neg (by have := H5.out; omega)]
                rw [this, bits_xor]; unfold theta; rw [H5.out]
              clear hb
              go_wp2
              go_roundw
              case rel =>
                refine ⟨p + 5, by have := H5.out; omega, by omega, by go_num, ?_, ?_, ?_, ?_⟩
                · refine blk_as (blk_up HB.out p (theta f p)) fun i hi => ?_
                  have := H5.out
                  unfold up thIn
                  by_cases g : i = p
                  · rw [if_pos g, if_pos (by omega), g]
                  · rw [if_neg g]
                    by_cases g1 : i % 5 < x ∨ (i % 5 = x ∧ i < p)
                    · rw [if_pos g1, if_pos (by omega)]
                    · rw [if_neg g1, if_neg (by omega)]
                · exact (blk_setne _ _ _ (by omega)).trans HZ.out
                · exact (blk_setne _ _ _ (by omega)).trans HC.out
                · exact HF.out.set _ _ (.inr (Nat.le_refl _))
              case measure => simp [intOf]; omega
            · clear hb
              go_wp2
              go_roundw
              case rel =>
                refine ⟨x + 1, by omega, by go_num, ?_, HZ.out, HC.out, HF.out⟩
                refine blk_as HB.out fun i hi => ?_
                unfold thTo thIn
                by_cases g1 : i % 5 < x ∨ (i % 5 = x ∧ i < p)
                · rw [if_pos g1, if_pos (by omega)]
                · rw [if_neg g1, if_neg (by omega)]
              case measure => simp [intOf]; omega
        · have hx5 : x = 5 := by omega
          subst hx5
          have HE := hid (blk_as hb (g := theta f) fun i hi => by unfold thTo; rw [if_pos (by omega)])
          clear hb hc HB HC
          go_upto_region 16 with fail
          apply wp_region_lit
          refine wpList_ld rfl (.tmp 1) rfl HE.out (by simp [Act.eval]) ?_
          refine wpList_st (g := theta f) rfl (.tmp 2) (.tmp 64) rfl HZ.out (by simp [Act.eval, Act.put]) (by simp [Act.eval, Act.put]) ?_
          have RH := hid (row_heap (g := theta f) HZ.out)
          have RF := hid (HF.out.row (vals 25 (theta f)) (.inr (Nat.le_succ w.heap.size)))
          generalize World.setRow _ (w.heap.size + 1) (vals 25 (theta f)) = w2 at RH RF ⊢
          go_wp2
          exact bodyPost_ret (v := .agg (vals 25 (theta f))) (ret25 rfl RH.out rfl) rfl ⟨rfl, RF.out⟩
end Go.Proofs.YtdcocgjlfhicaaaDoor
namespace Go.Proofs.YtdcocgjlfhicaaaDoor
open Go.ChangeShapes Go.WideShapes Go.ChangeAt Go.RowKit

set_option maxRecDepth 20000 in
set_option maxHeartbeats 400000 in
theorem permute_c (w : World) (T : Tabs w) (f : Nat → BitVec 64) :
    Calls Tryd.prog 104 #[.agg (vals 25 f)] w fun e w' => e = .returned (.agg (vals 25 (perm 24 f))) ∧ Fr [] w w' := by
  have HT := hid T
  have h3 := T.lt
  clear T
  go_enter Tryd.func104, Tryd.ntmps104
  go_upto_region 1 with fail
  obtain ⟨w1, hw1, hb, hz, hf, hs⟩ := start2 w f
  rw [zero25, hw1]
  have HB := hid hb
  have HZ := hid hz
  have HF := hid hf
  clear hw1 hb hz hf hs
  go_wp2
  go_loopw [4] (fun v4 wr => ∃ t : Nat, t ≤ 24 ∧ v4 = .int .i64 (t : Int) ∧ wr.heap[w.heap.size]? = some (.cells (vals 25 (perm t f)) 76 (0, 0)) ∧ wr.heap[w.heap.size + 1]? = some (.cells (vals 25 (fun _ => 0)) 76 (0, 0)) ∧ Fr [] w wr) (fun v4 _ => 24 - (intOf v4).toNat)
  case atStart => exact ⟨0, by omega, rfl, HB.out, HZ.out, HF.out⟩
  case round =>
    clear HB HZ HF
    obtain ⟨t, ht, rfl, hb, hz, hfr⟩ := hrel
    have HB := hid hb
    have HZ := hid hz
    have HF := hid hfr
    clear hz hfr
    by_cases hlt : t < 24
    · clear hb
      go_upto_region 4 with fail
      apply wp_region_lit
      refine wpList_ld rfl (.tmp 1) rfl HB.out (by simp [Act.eval]) ?_
      go_wp2_with fail
      refine (mixColumns_c _ _).mono ?_
      rintro e wa ⟨rfl, fa⟩
      go_wp2_with fail
      refine (moveLanes_c _ (HT.out.fr (HF.out.trans fa)) _).mono ?_
      rintro e wb ⟨rfl, fb⟩
      go_wp2_with fail
      refine (mixRows_c _ _).mono ?_
      rintro e wc ⟨rfl, fc⟩
      have FA := hid ((fa.trans fb).trans fc)
      have hbc := FA.out.at HB.out (by simp)
      have hzc := FA.out.at HZ.out (by simp)
      rename_i hK
      refine hK _ _ ?_
      refine wpList_st (g := chi (rho (theta (perm t f)))) rfl (.tmp 1) (.tmp 10) rfl hbc (by simp [Act.eval]) (by simp [Act.eval]) ?_
      have hr := row_heap (g := chi (rho (theta (perm t f)))) hbc
      have RH := hid hr
      have RZ := hid ((row_ne wc (vals 25 (chi (rho (theta (perm t f))))) (show w.heap.size + 1 ≠ w.heap.size by omega)).trans hzc)
      have RF := hid ((HF.out.trans FA.out).row (vals 25 (chi (rho (theta (perm t f))))) (.inr (Nat.le_refl w.heap.size)))
      clear hr hK hbc hzc FA fa fb fc HB HZ HF
      generalize World.setRow wc w.heap.size (vals 25 (chi (rho (theta (perm t f))))) = w2 at RH RZ RF ⊢
      have e1 := lane_at RH.out (i := 0) (by omega)
      have e2 := (HT.out.fr RF.out).con t hlt
      have fz := blk_frozen RH.out
      have HV := hid (rnd_of (r := t) (f := perm t f) (g := chi (rho (theta (perm t f)))) fun i _ => rfl)
      generalize chi (rho (theta (perm t f))) = g at *
      go_wp2
      go_region
      all_goals go_wp2
      all_goals go_roundw
      all_goals first
        | (simp [intOf]; omega)
        | (simp only [bits_xor]
           refine ⟨t + 1, by omega, by go_num, (blk_drew _ _).trans (blk_as (blk_up RH.out 0 _) fun i hi => HV.out i hi), (blk_drew _ _).trans ((blk_setne _ _ _ (by omega)).trans RZ.out), (RF.out.set _ _ (.inr (Nat.le_refl _))).drew⟩)
    · have ht24 : t = 24 := by omega
      subst ht24
      clear hb
      go_upto_region 7 with fail
      apply wp_region_lit
      refine wpList_ld rfl (.tmp 1) rfl HB.out (by simp [Act.eval]) ?_
      refine wpList_st (g := perm 24 f) rfl (.tmp 2) (.tmp 19) rfl HZ.out (by simp [Act.eval, Act.put]) (by simp [Act.eval, Act.put]) ?_
      have RH := hid (row_heap (g := perm 24 f) HZ.out)
      have RF := hid (HF.out.row (vals 25 (perm 24 f)) (.inr (Nat.le_succ w.heap.size)))
      generalize World.setRow _ (w.heap.size + 1) (vals 25 (perm 24 f)) = w2 at RH RF ⊢
      go_wp2
      exact bodyPost_ret (v := .agg (vals 25 (perm 24 f))) (ret25 rfl RH.out rfl) rfl ⟨rfl, RF.out⟩
end Go.Proofs.YtdcocgjlfhicaaaDoor
