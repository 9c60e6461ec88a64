/-
  What moveLanes answers; the program's tables.
-/
import Derived.Test.YtdcocgjlfhicaaaDoorKV
import Derived.Deep.MidRow
namespace Go.Proofs.YtdcocgjlfhicaaaDoor
open Go.ChangeShapes Go.WideShapes Go.ChangeAt Go.RowKit

/-- An array of n bytes. -/
def bvals (n : Nat) (g : Nat → Nat) : Array Value := Array.ofFn (n := n) fun i => .int .u8 (g i : Int)
theorem bvals_size (n : Nat) (f : Nat → Nat) : (bvals n f).size = n := Array.size_ofFn
theorem bvals_at {n i : Nat} (f : Nat → Nat) (h : i < n) : (bvals n f)[i]? = some (.int .u8 (f i : Int)) := by
  unfold bvals
  rw [Array.getElem?_ofFn]
  simp [h]

/-- The program's three tables, as its text lays them. -/
structure Tabs (w : World) : Prop where
  con : ∀ i, i < 24 → w.cell? ⟨0, i, none⟩ = some (.int .u64 ((rc i).toNat : Int))
  wal : ∀ i, i < 24 → w.cell? ⟨1, i, none⟩ = some (.int .u8 (walkL.getD i 0 : Int))
  tur : ∀ i, i < 24 → w.cell? ⟨2, i, none⟩ = some (.int .u8 (turnL.getD i 0 : Int))
theorem Tabs.fr {w w' : World} (h : Tabs w) (f : Fr [] w w') : Tabs w' := by
  have keep : ∀ b i v, w.cell? ⟨b, i, none⟩ = some v → w'.cell? ⟨b, i, none⟩ = some v := fun b i v hv => by
    rw [World.cell?_of_block (w := w) (f.block _ (World.block_lt_of_cell? w _ hv) (by simp))]; exact hv
  exact ⟨fun i hi => keep _ _ _ (h.con i hi), fun i hi => keep _ _ _ (h.wal i hi), fun i hi => keep _ _ _ (h.tur i hi)⟩
theorem Tabs.drew {w : World} (h : Tabs w) (n : Nat) : Tabs (w.drewN n) := h.fr ((Fr.refl _ _).drewN n)
theorem Tabs.lt {w : World} (h : Tabs w) : 3 ≤ w.heap.size := World.block_lt_of_cell? w _ (h.tur 0 (by omega))

theorem info24 : (Tryd.prog.info? 179).map (·.size) = some 24 := by kernel_rfl
def walkV : Array Value := bvals 24 fun i => walkL.getD i 0
theorem walkV_at {i : Nat} (h : i < 24) : walkV[i]? = some (.int .u8 (walkL.getD i 0 : Int)) := bvals_at _ h
theorem walkV_size : walkV.size = 24 := bvals_size _ _
theorem wpList_ldWalk {ops : Array Oper} {rest : List Oper} {op : Oper} {a : Act} {w : World} {Q : Exit → Act → World → Prop} (hgd : op.guard = none) (x : Operand) (ho : op.op = .load 179 x) (T : Tabs w)
    (hx : a.eval x = .pointer (some ⟨1, 0, none⟩)) (h : wpList Tryd.prog ops Q rest (a.put op.dst (.agg walkV)) w) : wpList Tryd.prog ops Q (op :: rest) a w := by
  have hr : w.rangeAt 1 0 walkV.toList := fun j v hv => by
    rw [Array.getElem?_toList] at hv
    have hj : j < 24 := by
      rcases Nat.lt_or_ge j 24 with h | h
      · exact h
      · rw [Array.getElem?_eq_none (by rw [walkV_size]; omega)] at hv; cases hv
    rw [Nat.zero_add, T.wal j hj, ← hv, walkV_at hj]
  have := wpList_load_mid (P := Tryd.prog) (ops := ops) (rest := rest) (Q := Q) hgd 179 x ho 1 0 hx walkV.toList _ hr Tryd.underlying179 rfl (by rw [Array.length_toList, walkV_size]; exact info24)
  rw [Array.toArray_toList] at this
  exact this h
theorem idxWalk0 (w : World) : (Instr.index 179 (.agg walkV) (.int .i64 0)).run Tryd.prog w = .ok (.int .u8 10) w := by kernel_rfl
theorem idxWalk1 (w : World) : (Instr.index 179 (.agg walkV) (.int .i64 1)).run Tryd.prog w = .ok (.int .u8 7) w := by kernel_rfl
theorem idxWalk2 (w : World) : (Instr.index 179 (.agg walkV) (.int .i64 2)).run Tryd.prog w = .ok (.int .u8 11) w := by kernel_rfl
theorem idxWalk3 (w : World) : (Instr.index 179 (.agg walkV) (.int .i64 3)).run Tryd.prog w = .ok (.int .u8 17) w := by kernel_rfl
theorem idxWalk4 (w : World) : (Instr.index 179 (.agg walkV) (.int .i64 4)).run Tryd.prog w = .ok (.int .u8 18) w := by kernel_rfl
theorem idxWalk5 (w : World) : (Instr.index 179 (.agg walkV) (.int .i64 5)).run Tryd.prog w = .ok (.int .u8 3) w := by kernel_rfl
theorem idxWalk6 (w : World) : (Instr.index 179 (.agg walkV) (.int .i64 6)).run Tryd.prog w = .ok (.int .u8 5) w := by kernel_rfl
theorem idxWalk7 (w : World) : (Instr.index 179 (.agg walkV) (.int .i64 7)).run Tryd.prog w = .ok (.int .u8 16) w := by kernel_rfl
theorem idxWalk8 (w : World) : (Instr.index 179 (.agg walkV) (.int .i64 8)).run Tryd.prog w = .ok (.int .u8 8) w := by kernel_rfl
theorem idxWalk9 (w : World) : (Instr.index 179 (.agg walkV) (.int .i64 9)).run Tryd.prog w = .ok (.int .u8 21) w := by kernel_rfl
theorem idxWalk10 (w : World) : (Instr.index 179 (.agg walkV) (.int .i64 10)).run Tryd.prog w = .ok (.int .u8 24) w := by kernel_rfl
theorem idxWalk11 (w : World) : (Instr.index 179 (.agg walkV) (.int .i64 11)).run Tryd.prog w = .ok (.int .u8 4) w := by kernel_rfl
theorem idxWalk12 (w : World) : (Instr.index 179 (.agg walkV) (.int .i64 12)).run Tryd.prog w = .ok (.int .u8 15) w := by kernel_rfl
theorem idxWalk13 (w : World) : (Instr.index 179 (.agg walkV) (.int .i64 13)).run Tryd.prog w = .ok (.int .u8 23) w := by kernel_rfl
theorem idxWalk14 (w : World) : (Instr.index 179 (.agg walkV) (.int .i64 14)).run Tryd.prog w = .ok (.int .u8 19) w := by kernel_rfl
theorem idxWalk15 (w : World) : (Instr.index 179 (.agg walkV) (.int .i64 15)).run Tryd.prog w = .ok (.int .u8 13) w := by kernel_rfl
theorem idxWalk16 (w : World) : (Instr.index 179 (.agg walkV) (.int .i64 16)).run Tryd.prog w = .ok (.int .u8 12) w := by kernel_rfl
theorem idxWalk17 (w : World) : (Instr.index 179 (.agg walkV) (.int .i64 17)).run Tryd.prog w = .ok (.int .u8 2) w := by kernel_rfl
theorem idxWalk18 (w : World) : (Instr.index 179 (.agg walkV) (.int .i64 18)).run Tryd.prog w = .ok (.int .u8 20) w := by kernel_rfl
theorem idxWalk19 (w : World) : (Instr.index 179 (.agg walkV) (.int .i64 19)).run Tryd.prog w = .ok (.int .u8 14) w := by kernel_rfl
theorem idxWalk20 (w : World) : (Instr.index 179 (.agg walkV) (.int .i64 20)).run Tryd.prog w = .ok (.int .u8 22) w := by kernel_rfl
theorem idxWalk21 (w : World) : (Instr.index 179 (.agg walkV) (.int .i64 21)).run Tryd.prog w = .ok (.int .u8 9) w := by kernel_rfl
theorem idxWalk22 (w : World) : (Instr.index 179 (.agg walkV) (.int .i64 22)).run Tryd.prog w = .ok (.int .u8 6) w := by kernel_rfl
theorem idxWalk23 (w : World) : (Instr.index 179 (.agg walkV) (.int .i64 23)).run Tryd.prog w = .ok (.int .u8 1) w := by kernel_rfl
theorem idxWalk {t : Nat} (h : t < 24) (w : World) : (Instr.index 179 (.agg walkV) (.int .i64 (t : Int))).run Tryd.prog w = .ok (.int .u8 (walkL.getD t 0 : Int)) w := by
  have : t = 0 ∨ t = 1 ∨ t = 2 ∨ t = 3 ∨ t = 4 ∨ t = 5 ∨ t = 6 ∨ t = 7 ∨ t = 8 ∨ t = 9 ∨ t = 10 ∨ t = 11 ∨ t = 12 ∨ t = 13 ∨ t = 14 ∨ t = 15 ∨ t = 16 ∨ t = 17 ∨ t = 18 ∨ t = 19 ∨ t = 20 ∨ t = 21 ∨ t = 22 ∨ t = 23 := by omega
  rcases this with rfl | rfl | rfl | rfl | rfl | rfl | rfl | rfl | rfl | rfl | rfl | rfl | rfl | rfl | rfl | rfl | rfl | rfl | rfl | rfl | rfl | rfl | rfl | rfl
  · exact idxWalk0 w
  · exact idxWalk1 w
  · exact idxWalk2 w
  · exact idxWalk3 w
  · exact idxWalk4 w
  · exact idxWalk5 w
  · exact idxWalk6 w
  · exact idxWalk7 w
  · exact idxWalk8 w
  · exact idxWalk9 w
  · exact idxWalk10 w
  · exact idxWalk11 w
  · exact idxWalk12 w
  · exact idxWalk13 w
  · exact idxWalk14 w
  · exact idxWalk15 w
  · exact idxWalk16 w
  · exact idxWalk17 w
  · exact idxWalk18 w
  · exact idxWalk19 w
  · exact idxWalk20 w
  · exact idxWalk21 w
  · exact idxWalk22 w
  · exact idxWalk23 w
theorem walk_lt {t : Nat} (h : t < 24) : walkL.getD t 0 < 25 := by
  have : ∀ t : Fin 24, walkL.getD t 0 < 25 := by decide +kernel
  exact this ⟨t, h⟩
theorem turn_lt {t : Nat} (h : t < 24) : turnL.getD t 0 < 64 := by
  have : ∀ t : Fin 24, turnL.getD t 0 < 64 := by decide +kernel
  exact this ⟨t, h⟩

theorem zero25 : (#[.int .u64 0, .int .u64 0, .int .u64 0, .int .u64 0, .int .u64 0, .int .u64 0, .int .u64 0, .int .u64 0, .int .u64 0, .int .u64 0, .int .u64 0, .int .u64 0, .int .u64 0, .int .u64 0, .int .u64 0, .int .u64 0, .int .u64 0, .int .u64 0, .int .u64 0, .int .u64 0, .int .u64 0, .int .u64 0, .int .u64 0, .int .u64 0, .int .u64 0] : Array Value) = vals 25 (fun _ => 0) := rfl
/-- The two arrays that a function of an array begins with: what came in, and what goes out. -/
theorem start2 (w : World) (f : Nat → BitVec 64) : ∃ w1, (w.alloc (.cells (vals 25 f) 76)).alloc (.cells (vals 25 (fun _ => 0)) 76) = w1 ∧ w1.heap[w.heap.size]? = some (.cells (vals 25 f) 76 (0, 0)) ∧ w1.heap[w.heap.size + 1]? = some (.cells (vals 25 (fun _ => 0)) 76 (0, 0)) ∧ Fr [] w w1 ∧ w1.heap.size = w.heap.size + 2 := by
  refine ⟨_, rfl, ?_, ?_, ((Fr.refl _ _).alloc _).alloc _, by simp⟩
  · rw [blk_old _ _ (by simp), blk_new]
  · exact new_at _ _ (by simp)

set_option maxRecDepth 20000 in
set_option maxHeartbeats 400000 in
theorem moveLanes_c (w : World) (T : Tabs w) (f : Nat → BitVec 64) :
    Calls Tryd.prog 114 #[.agg (vals 25 f)] w fun e w' => e = .returned (.agg (vals 25 (rho f))) ∧ Fr [] w w' := by
  have HT := hid T
  clear T
  go_enter Tryd.func114, Tryd.ntmps114
  go_upto_region 1 with fail
  obtain ⟨w1, hw1, hb, hz, hf, hs⟩ := start2 w f
  rw [zero25, hw1]
  have e1 := lane_at hb (i := 1) (by omega)
  have HB := hid hb
  have HZ := hid hz
  have HF := hid hf
  clear hw1 hb hz hf hs
  go_upto_region 2 with fail
  apply wp_region_lit
  refine wpList_ldWalk rfl (.global 1) rfl (HT.out.fr HF.out) (by simp [Act.eval]) ?_
  have hw9 : ∀ i, i < 24 → walkV[i]? = some (.int .u8 (walkL.getD i 0 : Int)) := fun i hi => walkV_at hi
  have HW := hid hw9
  clear hw9
  go_wp2
  go_loopw [3, 10] (fun v3 v10 wr => ∃ t : Nat, t ≤ 24 ∧ v10 = .int .i64 (t : Int) ∧ v3 = .int .u64 ((mv t f).2.toNat : Int) ∧ wr.heap[w.heap.size]? = some (.cells (vals 25 (mv t f).1) 76 (0, 0)) ∧ wr.heap[w.heap.size + 1]? = some (.cells (vals 25 (fun _ => 0)) 76 (0, 0)) ∧ Fr [] w wr) (fun _ v10 _ => 24 - (intOf v10).toNat)
  case atStart => exact ⟨0, by omega, rfl, rfl, HB.out, HZ.out, HF.out⟩
  case round =>
    clear HB HZ HF e1
    obtain ⟨t, ht, rfl, rfl, hb, hz, hfr⟩ := hrel
    have HB := hid hb
    have HZ := hid hz
    have HF := hid hfr
    clear hz hfr
    by_cases hlt : t < 24
    · have hT := HT.out.fr HF.out
      have e1 := hT.tur t hlt
      have e2 := idxWalk hlt
      have hp := walk_lt hlt
      have hk := turn_lt hlt
      have e3 := lane_at hb (i := walkL.getD t 0) hp
      have fz := blk_frozen hb
      clear hb hT
      have HP : Hid ((mv (t + 1) f).1 = up (mv t f).1 (walkL.getD t 0) (rl (mv t f).2 (turnL.getD t 0)) ∧ (mv (t + 1) f).2 = (mv t f).1 (walkL.getD t 0)) := ⟨rfl, rfl⟩
      generalize walkL.getD t 0 = p at *
      generalize turnL.getD t 0 = k at *
      generalize (mv t f).2 = c at *
      go_wp2_with (go_at_call 119; refine (rotateN_c _ _ _ hk).mono ?_; rintro e w' ⟨rfl, rfl⟩)
      go_roundw
      case rel =>
        refine ⟨t + 1, by omega, by go_num, ?_, ?_, ?_, ?_⟩
        · rw [HP.out.2]
        · rw [HP.out.1]; exact blk_up HB.out p (rl c k)
        · exact (blk_setne _ _ _ (by omega)).trans HZ.out
        · exact HF.out.set _ _ (.inr (Nat.le_refl _))
      case measure => simp [intOf]; omega
    · have ht24 : t = 24 := by omega
      subst ht24
      have HE := hid (blk_as hb (g := rho f) (mv_rho f))
      clear hb HB
      go_upto_region 8 with fail
      apply wp_region_lit
      refine wpList_ld rfl (.tmp 1) rfl HE.out (by simp [Act.eval]) ?_
      refine wpList_st (g := rho f) rfl (.tmp 2) (.tmp 27) rfl HZ.out (by simp [Act.eval, Act.put]) (by simp [Act.eval, Act.put]) ?_
      have RH := hid (row_heap (g := rho f) HZ.out)
      have RF := hid (HF.out.row (vals 25 (rho f)) (.inr (Nat.le_succ w.heap.size)))
      generalize World.setRow _ (w.heap.size + 1) (vals 25 (rho f)) = w2 at RH RF ⊢
      go_wp2
      exact bodyPost_ret (v := .agg (vals 25 (rho f))) (ret25 rfl RH.out rfl) rfl ⟨rfl, RF.out⟩
end Go.Proofs.YtdcocgjlfhicaaaDoor
