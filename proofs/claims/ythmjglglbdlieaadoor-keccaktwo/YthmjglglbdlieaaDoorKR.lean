/-
  What mixRows answers.
-/
import Derived.Test.YthmjglglbdlieaaDoorKV
namespace Go.Proofs.YthmjglglbdlieaaDoor
open Go.ChangeShapes Go.WideShapes Go.ChangeAt Go.RowKit

/-- Rows below y are mixed. -/
def chiTo (f : Nat → BitVec 64) (y : Nat) : Nat → BitVec 64 := fun i => if i < y then chi f i else f i
theorem chi_step {wr : World} {b m : Nat} {f : Nat → BitVec 64} {t : TypeId} (h5 : m % 5 = 0) (hb : wr.heap[b]? = some (.cells (vals 25 (chiTo f m)) t (0, 0))) :
    (((((wr.setCell ⟨b, m, none⟩ (.int .u64 ((f m ^^^ (~~~ f (m + 1) &&& f (m + 2))).toNat : Int))).setCell ⟨b, m + 1, none⟩ (.int .u64 ((f (m + 1) ^^^ (~~~ f (m + 2) &&& f (m + 3))).toNat : Int))).setCell ⟨b, m + 2, none⟩ (.int .u64 ((f (m + 2) ^^^ (~~~ f (m + 3) &&& f (m + 4))).toNat : Int))).setCell ⟨b, m + 3, none⟩ (.int .u64 ((f (m + 3) ^^^ (~~~ f (m + 4) &&& f m)).toNat : Int))).setCell ⟨b, m + 4, none⟩ (.int .u64 ((f (m + 4) ^^^ (~~~ f m &&& f (m + 1))).toNat : Int))).heap[b]? = some (.cells (vals 25 (chiTo f (m + 5))) t (0, 0)) := by
  refine (blk_up (blk_up (blk_up (blk_up (blk_up hb m _) (m + 1) _) (m + 2) _) (m + 3) _) (m + 4) _).trans (congrArg (fun c => some (Obj.cells c t (0, 0))) (vals_congr fun i hi => ?_))
  have hnx : nx m 1 = m + 1 ∧ nx m 2 = m + 2 ∧ nx (m + 1) 1 = m + 2 ∧ nx (m + 1) 2 = m + 3 ∧ nx (m + 2) 1 = m + 3 ∧ nx (m + 2) 2 = m + 4 ∧ nx (m + 3) 1 = m + 4 ∧ nx (m + 3) 2 = m ∧ nx (m + 4) 1 = m ∧ nx (m + 4) 2 = m + 1 := by
    unfold nx; omega
  obtain ⟨n1, n2, n3, n4, n5, n6, n7, n8, n9, n10⟩ := hnx
  have c0 : chi f m = f m ^^^ (~~~ f (m + 1) &&& f (m + 2)) := by unfold chi; rw [n1, n2]
  have c1 : chi f (m + 1) = f (m + 1) ^^^ (~~~ f (m + 2) &&& f (m + 3)) := by unfold chi; rw [n3, n4]
  have c2 : chi f (m + 2) = f (m + 2) ^^^ (~~~ f (m + 3) &&& f (m + 4)) := by unfold chi; rw [n5, n6]
  have c3 : chi f (m + 3) = f (m + 3) ^^^ (~~~ f (m + 4) &&& f m) := by unfold chi; rw [n7, n8]
  have c4 : chi f (m + 4) = f (m + 4) ^^^ (~~~ f m &&& f (m + 1)) := by unfold chi; rw [n9, n10]
  rw [← c0, ← c1, ← c2, ← c3, ← c4]
  unfold up chiTo
  by_cases g4 : i = m + 4
  · rw [if_pos g4, if_pos (by omega), g4]
  by_cases g3 : i = m + 3
  · rw [if_neg g4, if_pos g3, if_pos (by omega), g3]
  by_cases g2 : i = m + 2
  · rw [if_neg g4, if_neg g3, if_pos g2, if_pos (by omega), g2]
  by_cases g1 : i = m + 1
  · rw [if_neg g4, if_neg g3, if_neg g2, if_pos g1, if_pos (by omega), g1]
  by_cases g0 : i = m
  · rw [if_neg g4, if_neg g3, if_neg g2, if_neg g1, if_pos g0, if_pos (by omega), g0]
  rw [if_neg g4, if_neg g3, if_neg g2, if_neg g1, if_neg g0]
  by_cases gl : i < m
  · rw [if_pos gl, if_pos (by omega)]
  · rw [if_neg gl, if_neg (by omega)]

set_option maxRecDepth 20000 in
set_option maxHeartbeats 400000 in
theorem mixRows_c (w : World) (f : Nat → BitVec 64) :
    Calls Tryd.prog 17 #[.agg (vals 25 f)] w fun e w' => e = .returned (.agg (vals 25 (chi f))) ∧ Fr [] w w' := by
  go_enter Tryd.func17, Tryd.ntmps17
  go_wp2
  go_loopw [3] (fun v3 wr => ∃ m : Nat, m ≤ 25 ∧ m % 5 = 0 ∧ v3 = .int .i64 (m : Int) ∧ wr.heap[w.heap.size]? = some (.cells (vals 25 (chiTo f m)) 36 (0, 0)) ∧ (∃ z, wr.heap[w.heap.size + 1]? = some (.cells (vals 25 z) 36 (0, 0))) ∧ Fr [] w wr) (fun v3 _ => 25 - (intOf v3).toNat)
  case atStart =>
    refine ⟨0, by omega, rfl, rfl, ?_, ⟨fun _ => 0, ?_⟩, ((Fr.refl _ _).alloc _).alloc _⟩
    · rw [blk_old _ _ (by simp)]
      rw [blk_new]
      rfl
    · exact new_at _ _ (by simp)
  case round =>
    obtain ⟨m, hm, hm5, rfl, hb, ⟨z, hz⟩, hfr⟩ := hrel
    have HB := hid hb
    have HZ := hid hz
    have HF := hid hfr
    have H5 := hid hm5
    clear hz hfr hm5
    by_cases hlt : m < 25
    · have hm20 : m ≤ 20 := by have := H5.out; omega
      have e0 : wr.cell? ⟨w.heap.size, m, none⟩ = some (.int .u64 ((f m).toNat : Int)) := by rw [lane_at hb (by omega), chiTo, if_neg (by omega)]
      have e1 : wr.cell? ⟨w.heap.size, m + 1, none⟩ = some (.int .u64 ((f (m + 1)).toNat : Int)) := by rw [lane_at hb (by omega), chiTo, if_neg (by omega)]
      have e2 : wr.cell? ⟨w.heap.size, m + 2, none⟩ = some (.int .u64 ((f (m + 2)).toNat : Int)) := by rw [lane_at hb (by omega), chiTo, if_neg (by omega)]
      have e3 : wr.cell? ⟨w.heap.size, m + 3, none⟩ = some (.int .u64 ((f (m + 3)).toNat : Int)) := by rw [lane_at hb (by omega), chiTo, if_neg (by omega)]
      have e4 : wr.cell? ⟨w.heap.size, m + 4, none⟩ = some (.int .u64 ((f (m + 4)).toNat : Int)) := by rw [lane_at hb (by omega), chiTo, if_neg (by omega)]
      have fz := blk_frozen hb
      clear hb
      go_wp2
      go_region
      go_wp2
      go_roundw
      case rel =>
        simp only [bits_not, bits_and, bits_xor]
        refine ⟨m + 5, by omega, by have := H5.out; omega, by go_num, ?_, ⟨z, ?_⟩, ?_⟩
        · exact (blk_drew _ _).trans (chi_step H5.out HB.out)
        · rw [blk_drew, blk_setne _ _ _ (by omega), blk_setne _ _ _ (by omega), blk_setne _ _ _ (by omega), blk_setne _ _ _ (by omega), blk_setne _ _ _ (by omega)]
          exact HZ.out
        · exact (((((HF.out.set _ _ (.inr (Nat.le_refl _))).set _ _ (.inr (Nat.le_refl _))).set _ _ (.inr (Nat.le_refl _))).set _ _ (.inr (Nat.le_refl _))).set _ _ (.inr (Nat.le_refl _))).drew
      case measure => simp [intOf]; omega
    · have hm25 : m = 25 := by omega
      subst hm25
      clear hb
      go_upto_region 10 with fail
      apply wp_region_lit
      refine wpList_ld rfl (.tmp 1) rfl HB.out (by simp [Act.eval]) ?_
      refine wpList_st (g := chiTo f 25) rfl (.tmp 2) (.tmp 76) rfl HZ.out (by simp [Act.eval, Act.put]) (by simp [Act.eval, Act.put]) ?_
      have RH := hid (row_heap (g := chiTo f 25) HZ.out)
      have RF := hid (HF.out.row (vals 25 (chiTo f 25)) (.inr (Nat.le_succ w.heap.size)))
      have he : Hid (vals 25 (chiTo f 25) = vals 25 (chi f)) := vals_congr fun i hi => by unfold chiTo; rw [if_pos hi]
      rw [he.out] at RH RF ⊢
      generalize wr.setRow (w.heap.size + 1) (vals 25 (chi f)) = w2 at RH RF ⊢
      go_wp2
      exact bodyPost_ret (v := .agg (vals 25 (chi f))) (ret25 rfl RH.out rfl) rfl ⟨rfl, RF.out⟩
end Go.Proofs.YthmjglglbdlieaaDoor
