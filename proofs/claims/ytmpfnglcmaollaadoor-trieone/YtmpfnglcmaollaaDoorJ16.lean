/-
  Arrays of lanes as the program's values; the operators on them.
-/
import Derived.Test.YtmpfnglcmaollaaDoorJ00
import Derived.Test.YtmpfnglcmaollaaDoorJ11
import Derived.Laws.BitsAllLaws
import Derived.Deep.WholeRow
import Derived.Deep.Cut
import Derived.Laws.ResultCell
import Derived.Deep.MidRow
namespace Go.Proofs.YtmpfnglcmaollaaDoor
open Go.ChangeShapes Go.WideShapes Go.ChangeAt Go.RowKit

/-- A lane as the program's value. -/
def lv (x : BitVec 64) : Value := .int .u64 (x.toNat : Int)
/-- An array of n lanes. -/
def vals (n : Nat) (f : Nat → BitVec 64) : Array Value := Array.ofFn (n := n) fun i => lv (f i)
theorem vals_size (n : Nat) (f : Nat → BitVec 64) : (vals n f).size = n := Array.size_ofFn
theorem vals_at {n i : Nat} (f : Nat → BitVec 64) (h : i < n) : (vals n f)[i]? = some (lv (f i)) := by
  unfold vals
  rw [Array.getElem?_ofFn]
  simp [h]
theorem vals_set (n : Nat) (f : Nat → BitVec 64) (k : Nat) (x : BitVec 64) : (vals n f).setIfInBounds k (lv x) = vals n (up f k x) := by
  apply Array.ext_getElem?
  intro i
  rw [Array.getElem?_setIfInBounds, vals_size]
  by_cases hi : i < n
  · rw [vals_at _ hi, vals_at _ hi]
    by_cases hk : k = i
    · subst hk; simp [hi, up_same]
    · rw [if_neg hk, up_ne _ _ (fun e => hk e.symm)]
  · have e1 : (vals n f)[i]? = none := by rw [Array.getElem?_eq_none]; rw [vals_size]; omega
    have e2 : (vals n (up f k x))[i]? = none := by rw [Array.getElem?_eq_none]; rw [vals_size]; omega
    rw [e1, e2]
    split
    · rename_i e; subst e; simp [hi]
    · rfl
theorem vals_congr {n : Nat} {f g : Nat → BitVec 64} (h : ∀ i, i < n → f i = g i) : vals n f = vals n g := by
  apply Array.ext_getElem?
  intro i
  by_cases hi : i < n
  · rw [vals_at _ hi, vals_at _ hi, h i hi]
  · rw [Array.getElem?_eq_none (by rw [vals_size]; omega), Array.getElem?_eq_none (by rw [vals_size]; omega)]
theorem vals_one (n : Nat) (f : Nat → BitVec 64) : (vals n f).all (·.oneCell') = true := by
  rw [Array.all_eq_true]
  intro i hi
  simp only [vals, Array.getElem_ofFn]
  rfl

theorem bits_xor (x y : BitVec 64) : bits .xor .u64 (x.toNat : Int) (y.toNat : Int) = ((x ^^^ y).toNat : Int) := by
  rw [u64_xor_nat _ _ x.isLt y.isLt, BitVec.toNat_xor]
theorem bits_and (x y : BitVec 64) : bits .and .u64 (x.toNat : Int) (y.toNat : Int) = ((x &&& y).toNat : Int) := by
  rw [u64_and_nat _ _ x.isLt y.isLt, BitVec.toNat_and]
theorem bits_or (x y : BitVec 64) : bits .or .u64 (x.toNat : Int) (y.toNat : Int) = ((x ||| y).toNat : Int) := by
  rw [u64_or_nat _ _ x.isLt y.isLt, BitVec.toNat_or]

theorem bits_not (x : BitVec 64) : bits .xor .u64 (if IntKind.u64.signed = true then -1 else IntKind.u64.max) (x.toNat : Int) = ((~~~ x).toNat : Int) := by
  have e : (if IntKind.u64.signed = true then (-1 : Int) else IntKind.u64.max) = ((BitVec.allOnes 64).toNat : Int) := by decide
  rw [e, bits_xor, BitVec.allOnes_xor]
theorem and63 {k : Nat} (hk : k < 64) : bits .and .u64 (k : Int) 63 = (k : Int) := by
  have := u64_and_nat k 63 (by omega) (by omega)
  rw [show k &&& 63 = k from by rw [show (63 : Nat) = 2 ^ 6 - 1 from rfl, Nat.and_two_pow_sub_one_eq_mod]; omega] at this
  exact this

theorem bits_shl (x : BitVec 64) (k : Nat) : IntKind.u64.wrap ((x.toNat : Int) * 2 ^ k) = ((x <<< k).toNat : Int) := by
  rw [IntKind.wrap_u64, BitVec.toNat_shiftLeft, Nat.shiftLeft_eq]
  rw [show ((x.toNat : Int) * 2 ^ k) = ((x.toNat * 2 ^ k : Nat) : Int) from by simp]
  omega
theorem bits_shr (x : BitVec 64) (k : Nat) : (x.toNat : Int) / 2 ^ k = ((x >>> k).toNat : Int) := by
  rw [BitVec.toNat_ushiftRight, Nat.shiftRight_eq_div_pow]
  simp
theorem rot_val (x : BitVec 64) {k : Nat} (hk : k < 64) : bits .or .u64 (IntKind.u64.wrap ((x.toNat : Int) * 2 ^ k)) ((x.toNat : Int) / 2 ^ (64 - k)) = ((x.rotateLeft k).toNat : Int) := by
  rw [bits_shl, bits_shr, bits_or, BitVec.rotateLeft_def, Nat.mod_eq_of_lt hk]
theorem ret_lv {a : Int} {x : BitVec 64} (h : a = (x.toNat : Int)) : Ending.returned (.int .u64 a) = .returned (lv x) := by rw [h]; rfl

set_option maxRecDepth 20000 in
theorem rotate_c (w : World) (x : BitVec 64) (k : Nat) (hk : k < 64) :
    Calls Tryd.prog 120 #[lv x, .int .i64 (k : Int)] w fun e w' => e = .returned (lv (x.rotateLeft k)) ∧ w' = w := by
  have hm := and63 hk
  have hx := x.isLt
  have hr := rot_val x hk
  unfold lv
  go_enter Tryd.func120, Tryd.ntmps120
  go_wp2
  go_ret
  exact ⟨rfl, rfl⟩
set_option maxRecDepth 20000 in
theorem left_c (w : World) (x : BitVec 64) (k : Nat) (hk : k < 64) :
    Calls Tryd.prog 68 #[lv x, .int .i64 (k : Int)] w fun e w' => e = .returned (lv (x.rotateLeft k)) ∧ ∃ n, w' = w.drewN n := by
  have hx := x.isLt
  have hr := rot_val x hk
  by_cases h0 : k = 0
  · subst h0
    clear hr
    rw [rotl_zero]
    unfold lv
    go_enter Tryd.func68, Tryd.ntmps68
    go_wp2
    go_ret
    exact ⟨rfl, 0, rfl⟩
  · have h1 : 0 < k := by omega
    unfold lv
    go_enter Tryd.func68, Tryd.ntmps68
    go_wp2
    go_region
    all_goals (go_wp2; go_ret; exact ⟨rfl, 1, rfl⟩)

/-- A lane turned, under a name that the walk leaves alone. -/
def rl (x : BitVec 64) (k : Nat) : BitVec 64 := x.rotateLeft k
theorem rotate1_c (w : World) (x : BitVec 64) : Calls Tryd.prog 120 #[.int .u64 (x.toNat : Int), .int .i64 1] w fun e w' => e = .returned (.int .u64 ((rl x 1).toNat : Int)) ∧ w' = w := rotate_c w x 1 (by omega)
theorem rotateN_c (w : World) (x : BitVec 64) (k : Nat) (hk : k < 64) : Calls Tryd.prog 120 #[.int .u64 (x.toNat : Int), .int .i64 (k : Int)] w fun e w' => e = .returned (.int .u64 ((rl x k).toNat : Int)) ∧ w' = w := rotate_c w x k hk
theorem left1_c (w : World) (x : BitVec 64) : Calls Tryd.prog 68 #[.int .u64 (x.toNat : Int), .int .i64 1] w fun e w' => e = .returned (.int .u64 ((rl x 1).toNat : Int)) ∧ ∃ n, w' = w.drewN n := left_c w x 1 (by omega)
theorem leftN_c (w : World) (x : BitVec 64) (k : Nat) (hk : k < 64) : Calls Tryd.prog 68 #[.int .u64 (x.toNat : Int), .int .i64 (k : Int)] w fun e w' => e = .returned (.int .u64 ((rl x k).toNat : Int)) ∧ ∃ n, w' = w.drewN n := left_c w x k hk
theorem blk_up {w : World} {b n : Nat} {g : Nat → BitVec 64} {t : TypeId} (h : w.heap[b]? = some (.cells (vals n g) t (0, 0))) (k : Nat) (x : BitVec 64) :
    (w.setCell ⟨b, k, none⟩ (.int .u64 (x.toNat : Int))).heap[b]? = some (.cells (vals n (up g k x)) t (0, 0)) := by
  have := blk_set h k (lv x)
  rw [vals_set] at this
  exact this
theorem lane_at {w : World} {b n : Nat} {f : Nat → BitVec 64} {t : TypeId} (h : w.heap[b]? = some (.cells (vals n f) t (0, 0))) {i : Nat} (hi : i < n) : w.cell? ⟨b, i, none⟩ = some (.int .u64 ((f i).toNat : Int)) := by
  rw [blk_cell h, vals_at _ hi]; rfl
theorem blk_as {w : World} {b n : Nat} {f g : Nat → BitVec 64} {t : TypeId} (h : w.heap[b]? = some (.cells (vals n f) t (0, 0))) (e : ∀ i, i < n → f i = g i) : w.heap[b]? = some (.cells (vals n g) t (0, 0)) := by
  rw [← vals_congr e]; exact h

theorem info25 : (Tryd.prog.info? 96).map (·.size) = some 25 := by kernel_rfl
/-- A whole array of lanes out of its block. -/
theorem ldVar {w : World} {b : Nat} {f : Nat → BitVec 64} (h : w.heap[b]? = some (.cells (vals 25 f) 96 (0, 0))) : (loadVar 96 ⟨b, 0, none⟩).run Tryd.prog w = .ok (.agg (vals 25 f)) w :=
  run_loadVar_row w b _ _ _ (0, 0) _ h Tryd.underlying96 rfl (by rw [vals_size]; exact info25)
theorem ldAt {w : World} {b : Nat} {f : Nat → BitVec 64} (h : w.heap[b]? = some (.cells (vals 25 f) 96 (0, 0))) : (Instr.loadAt 96 (.pointer (some ⟨b, 0, none⟩))).run Tryd.prog w = .ok (.agg (vals 25 f)) w := by
  simp only [Instr.loadAt, Instr.sureAddr, Sem.run_bind, Sem.run_pure, Result.andThen]
  exact ldVar h
theorem ldCells {w : World} {b : Nat} {f : Nat → BitVec 64} (h : w.heap[b]? = some (.cells (vals 25 f) 96 (0, 0))) : (loadCellsFrom ⟨b, 0, none⟩ 0 25 #[]).run Tryd.prog w = .ok (vals 25 f) w := by
  have := run_loadCells_list (P := Tryd.prog) w ⟨b, 0, none⟩ (vals 25 f).toList (fun j v hv => by
    have hadd : (⟨b, 0, none⟩ : Addr).add j = ⟨b, j, none⟩ := by unfold Addr.add; split <;> simp_all
    rw [hadd, blk_cell h]
    simpa using hv)
  simpa [loadCells, vals_size] using this
theorem stVar {w : World} {b : Nat} {f g : Nat → BitVec 64} (h : w.heap[b]? = some (.cells (vals 25 f) 96 (0, 0))) : (storeVar 96 ⟨b, 0, none⟩ (.agg (vals 25 g))).run Tryd.prog w = .ok () (w.setRow b (vals 25 g)) :=
  run_storeVar_row w b _ _ _ _ h (by rw [vals_size]; exact info25) (by rw [vals_size, vals_size]) (vals_one _ _)
theorem stAt {w : World} {b : Nat} {f : Nat → BitVec 64} (h : w.heap[b]? = some (.cells (vals 25 f) 96 (0, 0))) (g : Nat → BitVec 64) : (Instr.storeAt 96 (.pointer (some ⟨b, 0, none⟩)) (.agg (vals 25 g))).run Tryd.prog w = .ok () (w.setRow b (vals 25 g)) := by
  simp only [Instr.storeAt, Instr.sureAddr, Sem.run_bind, Sem.run_pure, Result.andThen]
  exact stVar h
theorem stCells {w : World} {b : Nat} {f : Nat → BitVec 64} (h : w.heap[b]? = some (.cells (vals 25 f) 96 (0, 0))) (g : Nat → BitVec 64) : (storeCells ⟨b, 0, none⟩ (vals 25 g).toList 0).run Tryd.prog w = .ok () (w.setRow b (vals 25 g)) := by
  have := run_storeCells_from (P := Tryd.prog) b 96 (vals 25 g).toList 0 (vals 25 f) w h (by simp [vals_size]) (fun v hv => (Array.all_eq_true_iff_forall_mem.1 (vals_one 25 g)) v (by simpa using hv))
  simpa using this
theorem wpList_ld {ops : Array Oper} {rest : List Oper} {op : Oper} {a : Act} {w : World} {Q : Exit → Act → World → Prop} (hgd : op.guard = none) (x : Operand) (ho : op.op = .load 96 x)
    {b : Nat} {f : Nat → BitVec 64} (hb : w.heap[b]? = some (.cells (vals 25 f) 96 (0, 0))) (hx : a.eval x = .pointer (some ⟨b, 0, none⟩)) (h : wpList Tryd.prog ops Q rest (a.put op.dst (.agg (vals 25 f))) w) : wpList Tryd.prog ops Q (op :: rest) a w :=
  wpList_plain hgd fun K hK => by
    unfold Oper.wp execOp
    simp only [ho, hx, Instr.loadAt, Instr.sureAddr, Sem.run_bind, Sem.run_pure, Result.andThen_ok, ldVar hb]
    exact hK _ _ h
theorem wpList_st {ops : Array Oper} {rest : List Oper} {op : Oper} {a : Act} {w : World} {Q : Exit → Act → World → Prop} (hgd : op.guard = none) (x y : Operand) (ho : op.op = .store 96 x y)
    {b : Nat} {f g : Nat → BitVec 64} (hb : w.heap[b]? = some (.cells (vals 25 f) 96 (0, 0))) (hx : a.eval x = .pointer (some ⟨b, 0, none⟩)) (hy : a.eval y = .agg (vals 25 g)) (h : wpList Tryd.prog ops Q rest (a.put op.dst undef) (w.setRow b (vals 25 g))) : wpList Tryd.prog ops Q (op :: rest) a w :=
  wpList_plain hgd fun K hK => by
    unfold Oper.wp execOp
    simp only [ho, hx, hy, Instr.storeAt, Instr.sureAddr, Sem.run_bind, Sem.run_pure, Result.andThen_ok, stVar (g := g) hb]
    exact hK _ _ h
/-- An array of lanes is handed back. -/
theorem ret25 {fn : Func} {p : Tmp} (h : fn.results = #[.cell p 96]) {tmps : Array Value} {w : World} {b : Nat} {f : Nat → BitVec 64} (hb : w.heap[b]? = some (.cells (vals 25 f) 96 (0, 0))) (hp : tmps.getD p undef = .pointer (some ⟨b, 0, none⟩)) :
    (results fn tmps).run Tryd.prog w = .ok (.agg (vals 25 f)) w :=
  results_cell_row h tmps w b 96 _ (0, 0) _ hp hb Tryd.underlying96 rfl (by rw [vals_size]; exact info25)
theorem row_heap {w : World} {b n : Nat} {f g : Nat → BitVec 64} {t : TypeId} (h : w.heap[b]? = some (.cells (vals n f) t (0, 0))) : (w.setRow b (vals n g)).heap[b]? = some (.cells (vals n g) t (0, 0)) := setRow_heap w b _ _ t _ h
theorem row_ne (w : World) {b k : Nat} (c : Array Value) (h : k ≠ b) : (w.setRow b c).heap[k]? = w.heap[k]? := by
  simp only [World.setRow, Array.getElem?_modify]
  rw [if_neg (fun e => h e.symm)]
theorem Fr.row {S : List Nat} {a b : World} (h : Fr S a b) {p : Nat} (c : Array Value) (hp : p ∈ S ∨ a.heap.size ≤ p) : Fr S a (b.setRow p c) :=
  ⟨h.os, h.tape, h.output, by simpa [World.setRow] using h.size, fun k hk hn => by
    rw [row_ne _ _ (by rcases hp with hp | hp <;> intro e <;> subst e; exact hn hp; omega)]; exact h.block k hk hn⟩
end Go.Proofs.YtmpfnglcmaollaaDoor
namespace Go.Proofs.YtmpfnglcmaollaaDoor
open Go.ChangeShapes Go.WideShapes Go.ChangeAt Go.RowKit

/-- An array of n bytes. -/
def bvals (n : Nat) (g : Nat → Nat) : Array Value := Array.ofFn (n := n) fun i => .int .u8 (g i : Int)
theorem bvals_size (n : Nat) (f : Nat → Nat) : (bvals n f).size = n := Array.size_ofFn
theorem bvals_at {n i : Nat} (f : Nat → Nat) (h : i < n) : (bvals n f)[i]? = some (.int .u8 (f i : Int)) := by
  unfold bvals
  rw [Array.getElem?_ofFn]
  simp [h]

/-- The program's three tables, as its text lays them. -/
structure Tabs (w : World) : Prop where
  con : ∀ i, i < 24 → w.cell? ⟨0, i, none⟩ = some (.int .u64 ((rc i).toNat : Int))
  wal : ∀ i, i < 24 → w.cell? ⟨1, i, none⟩ = some (.int .u8 (walkL.getD i 0 : Int))
  tur : ∀ i, i < 24 → w.cell? ⟨2, i, none⟩ = some (.int .u8 (turnL.getD i 0 : Int))
theorem Tabs.fr {w w' : World} (h : Tabs w) (f : Fr [] w w') : Tabs w' := by
  have keep : ∀ b i v, w.cell? ⟨b, i, none⟩ = some v → w'.cell? ⟨b, i, none⟩ = some v := fun b i v hv => by
    rw [World.cell?_of_block (w := w) (f.block _ (World.block_lt_of_cell? w _ hv) (by simp))]; exact hv
  exact ⟨fun i hi => keep _ _ _ (h.con i hi), fun i hi => keep _ _ _ (h.wal i hi), fun i hi => keep _ _ _ (h.tur i hi)⟩
theorem Tabs.drew {w : World} (h : Tabs w) (n : Nat) : Tabs (w.drewN n) := h.fr ((Fr.refl _ _).drewN n)
theorem Tabs.lt {w : World} (h : Tabs w) : 3 ≤ w.heap.size := World.block_lt_of_cell? w _ (h.tur 0 (by omega))

theorem info24 : (Tryd.prog.info? 179).map (·.size) = some 24 := by kernel_rfl
def walkV : Array Value := bvals 24 fun i => walkL.getD i 0
theorem walkV_at {i : Nat} (h : i < 24) : walkV[i]? = some (.int .u8 (walkL.getD i 0 : Int)) := bvals_at _ h
theorem walkV_size : walkV.size = 24 := bvals_size _ _
theorem wpList_ldWalk {ops : Array Oper} {rest : List Oper} {op : Oper} {a : Act} {w : World} {Q : Exit → Act → World → Prop} (hgd : op.guard = none) (x : Operand) (ho : op.op = .load 179 x) (T : Tabs w)
    (hx : a.eval x = .pointer (some ⟨1, 0, none⟩)) (h : wpList Tryd.prog ops Q rest (a.put op.dst (.agg walkV)) w) : wpList Tryd.prog ops Q (op :: rest) a w := by
  have hr : w.rangeAt 1 0 walkV.toList := fun j v hv => by
    rw [Array.getElem?_toList] at hv
    have hj : j < 24 := by
      rcases Nat.lt_or_ge j 24 with h | h
      · exact h
      · rw [Array.getElem?_eq_none (by rw [walkV_size]; omega)] at hv; cases hv
    rw [Nat.zero_add, T.wal j hj, ← hv, walkV_at hj]
  have := wpList_load_mid (P := Tryd.prog) (ops := ops) (rest := rest) (Q := Q) hgd 179 x ho 1 0 hx walkV.toList _ hr Tryd.underlying179 rfl (by rw [Array.length_toList, walkV_size]; exact info24)
  rw [Array.toArray_toList] at this
  exact this h
theorem idxWalk0 (w : World) : (Instr.index 179 (.agg walkV) (.int .i64 0)).run Tryd.prog w = .ok (.int .u8 10) w := by kernel_rfl
theorem idxWalk1 (w : World) : (Instr.index 179 (.agg walkV) (.int .i64 1)).run Tryd.prog w = .ok (.int .u8 7) w := by kernel_rfl
theorem idxWalk2 (w : World) : (Instr.index 179 (.agg walkV) (.int .i64 2)).run Tryd.prog w = .ok (.int .u8 11) w := by kernel_rfl
theorem idxWalk3 (w : World) : (Instr.index 179 (.agg walkV) (.int .i64 3)).run Tryd.prog w = .ok (.int .u8 17) w := by kernel_rfl
theorem idxWalk4 (w : World) : (Instr.index 179 (.agg walkV) (.int .i64 4)).run Tryd.prog w = .ok (.int .u8 18) w := by kernel_rfl
theorem idxWalk5 (w : World) : (Instr.index 179 (.agg walkV) (.int .i64 5)).run Tryd.prog w = .ok (.int .u8 3) w := by kernel_rfl
theorem idxWalk6 (w : World) : (Instr.index 179 (.agg walkV) (.int .i64 6)).run Tryd.prog w = .ok (.int .u8 5) w := by kernel_rfl
theorem idxWalk7 (w : World) : (Instr.index 179 (.agg walkV) (.int .i64 7)).run Tryd.prog w = .ok (.int .u8 16) w := by kernel_rfl
theorem idxWalk8 (w : World) : (Instr.index 179 (.agg walkV) (.int .i64 8)).run Tryd.prog w = .ok (.int .u8 8) w := by kernel_rfl
theorem idxWalk9 (w : World) : (Instr.index 179 (.agg walkV) (.int .i64 9)).run Tryd.prog w = .ok (.int .u8 21) w := by kernel_rfl
theorem idxWalk10 (w : World) : (Instr.index 179 (.agg walkV) (.int .i64 10)).run Tryd.prog w = .ok (.int .u8 24) w := by kernel_rfl
theorem idxWalk11 (w : World) : (Instr.index 179 (.agg walkV) (.int .i64 11)).run Tryd.prog w = .ok (.int .u8 4) w := by kernel_rfl
theorem idxWalk12 (w : World) : (Instr.index 179 (.agg walkV) (.int .i64 12)).run Tryd.prog w = .ok (.int .u8 15) w := by kernel_rfl
theorem idxWalk13 (w : World) : (Instr.index 179 (.agg walkV) (.int .i64 13)).run Tryd.prog w = .ok (.int .u8 23) w := by kernel_rfl
theorem idxWalk14 (w : World) : (Instr.index 179 (.agg walkV) (.int .i64 14)).run Tryd.prog w = .ok (.int .u8 19) w := by kernel_rfl
theorem idxWalk15 (w : World) : (Instr.index 179 (.agg walkV) (.int .i64 15)).run Tryd.prog w = .ok (.int .u8 13) w := by kernel_rfl
theorem idxWalk16 (w : World) : (Instr.index 179 (.agg walkV) (.int .i64 16)).run Tryd.prog w = .ok (.int .u8 12) w := by kernel_rfl
theorem idxWalk17 (w : World) : (Instr.index 179 (.agg walkV) (.int .i64 17)).run Tryd.prog w = .ok (.int .u8 2) w := by kernel_rfl
theorem idxWalk18 (w : World) : (Instr.index 179 (.agg walkV) (.int .i64 18)).run Tryd.prog w = .ok (.int .u8 20) w := by kernel_rfl
theorem idxWalk19 (w : World) : (Instr.index 179 (.agg walkV) (.int .i64 19)).run Tryd.prog w = .ok (.int .u8 14) w := by kernel_rfl
theorem idxWalk20 (w : World) : (Instr.index 179 (.agg walkV) (.int .i64 20)).run Tryd.prog w = .ok (.int .u8 22) w := by kernel_rfl
theorem idxWalk21 (w : World) : (Instr.index 179 (.agg walkV) (.int .i64 21)).run Tryd.prog w = .ok (.int .u8 9) w := by kernel_rfl
theorem idxWalk22 (w : World) : (Instr.index 179 (.agg walkV) (.int .i64 22)).run Tryd.prog w = .ok (.int .u8 6) w := by kernel_rfl
theorem idxWalk23 (w : World) : (Instr.index 179 (.agg walkV) (.int .i64 23)).run Tryd.prog w = .ok (.int .u8 1) w := by kernel_rfl
theorem idxWalk {t : Nat} (h : t < 24) (w : World) : (Instr.index 179 (.agg walkV) (.int .i64 (t : Int))).run Tryd.prog w = .ok (.int .u8 (walkL.getD t 0 : Int)) w := by
  have : t = 0 ∨ t = 1 ∨ t = 2 ∨ t = 3 ∨ t = 4 ∨ t = 5 ∨ t = 6 ∨ t = 7 ∨ t = 8 ∨ t = 9 ∨ t = 10 ∨ t = 11 ∨ t = 12 ∨ t = 13 ∨ t = 14 ∨ t = 15 ∨ t = 16 ∨ t = 17 ∨ t = 18 ∨ t = 19 ∨ t = 20 ∨ t = 21 ∨ t = 22 ∨ t = 23 := by omega
  rcases this with rfl | rfl | rfl | rfl | rfl | rfl | rfl | rfl | rfl | rfl | rfl | rfl | rfl | rfl | rfl | rfl | rfl | rfl | rfl | rfl | rfl | rfl | rfl | rfl
  · exact idxWalk0 w
  · exact idxWalk1 w
  · exact idxWalk2 w
  · exact idxWalk3 w
  · exact idxWalk4 w
  · exact idxWalk5 w
  · exact idxWalk6 w
  · exact idxWalk7 w
  · exact idxWalk8 w
  · exact idxWalk9 w
  · exact idxWalk10 w
  · exact idxWalk11 w
  · exact idxWalk12 w
  · exact idxWalk13 w
  · exact idxWalk14 w
  · exact idxWalk15 w
  · exact idxWalk16 w
  · exact idxWalk17 w
  · exact idxWalk18 w
  · exact idxWalk19 w
  · exact idxWalk20 w
  · exact idxWalk21 w
  · exact idxWalk22 w
  · exact idxWalk23 w
theorem walk_lt {t : Nat} (h : t < 24) : walkL.getD t 0 < 25 := by
  have : ∀ t : Fin 24, walkL.getD t 0 < 25 := by decide +kernel
  exact this ⟨t, h⟩
theorem turn_lt {t : Nat} (h : t < 24) : turnL.getD t 0 < 64 := by
  have : ∀ t : Fin 24, turnL.getD t 0 < 64 := by decide +kernel
  exact this ⟨t, h⟩

theorem zero25 : (#[.int .u64 0, .int .u64 0, .int .u64 0, .int .u64 0, .int .u64 0, .int .u64 0, .int .u64 0, .int .u64 0, .int .u64 0, .int .u64 0, .int .u64 0, .int .u64 0, .int .u64 0, .int .u64 0, .int .u64 0, .int .u64 0, .int .u64 0, .int .u64 0, .int .u64 0, .int .u64 0, .int .u64 0, .int .u64 0, .int .u64 0, .int .u64 0, .int .u64 0] : Array Value) = vals 25 (fun _ => 0) := rfl
/-- The two arrays that a function of an array begins with: what came in, and what goes out. -/
theorem start2 (w : World) (f : Nat → BitVec 64) : ∃ w1, (w.alloc (.cells (vals 25 f) 96)).alloc (.cells (vals 25 (fun _ => 0)) 96) = w1 ∧ w1.heap[w.heap.size]? = some (.cells (vals 25 f) 96 (0, 0)) ∧ w1.heap[w.heap.size + 1]? = some (.cells (vals 25 (fun _ => 0)) 96 (0, 0)) ∧ Fr [] w w1 ∧ w1.heap.size = w.heap.size + 2 := by
  refine ⟨_, rfl, ?_, ?_, ((Fr.refl _ _).alloc _).alloc _, by simp⟩
  · rw [blk_old _ _ (by simp), blk_new]
  · exact new_at _ _ (by simp)

set_option maxRecDepth 20000 in
set_option maxHeartbeats 400000 in
theorem moveLanes_c (w : World) (T : Tabs w) (f : Nat → BitVec 64) :
    Calls Tryd.prog 115 #[.agg (vals 25 f)] w fun e w' => e = .returned (.agg (vals 25 (rho f))) ∧ Fr [] w w' := by
  have HT := hid T
  clear T
  go_enter Tryd.func115, Tryd.ntmps115
  go_upto_region 1 with fail
  obtain ⟨w1, hw1, hb, hz, hf, hs⟩ := start2 w f
  rw [zero25, hw1]
  have e1 := lane_at hb (i := 1) (by omega)
  have HB := hid hb
  have HZ := hid hz
  have HF := hid hf
  clear hw1 hb hz hf hs
  go_upto_region 2 with fail
  apply wp_region_lit
  refine wpList_ldWalk rfl (.global 1) rfl (HT.out.fr HF.out) (by simp [Act.eval]) ?_
  have hw9 : ∀ i, i < 24 → walkV[i]? = some (.int .u8 (walkL.getD i 0 : Int)) := fun i hi => walkV_at hi
  have HW := hid hw9
  clear hw9
  go_wp2
  go_loopw [3, 10] (fun v3 v10 wr => ∃ t : Nat, t ≤ 24 ∧ v10 = .int .i64 (t : Int) ∧ v3 = .int .u64 ((mv t f).2.toNat : Int) ∧ wr.heap[w.heap.size]? = some (.cells (vals 25 (mv t f).1) 96 (0, 0)) ∧ wr.heap[w.heap.size + 1]? = some (.cells (vals 25 (fun _ => 0)) 96 (0, 0)) ∧ Fr [] w wr) (fun _ v10 _ => 24 - (intOf v10).toNat)
  case atStart => exact ⟨0, by omega, rfl, rfl, HB.out, HZ.out, HF.out⟩
  case round =>
    clear HB HZ HF e1
    obtain ⟨t, ht, rfl, rfl, hb, hz, hfr⟩ := hrel
    have HB := hid hb
    have HZ := hid hz
    have HF := hid hfr
    clear hz hfr
    by_cases hlt : t < 24
    · have hT := HT.out.fr HF.out
      have e1 := hT.tur t hlt
      have e2 := idxWalk hlt
      have hp := walk_lt hlt
      have hk := turn_lt hlt
      have e3 := lane_at hb (i := walkL.getD t 0) hp
      have fz := blk_frozen hb
      clear hb hT
      have HP : Hid ((mv (t + 1) f).1 = up (mv t f).1 (walkL.getD t 0) (rl (mv t f).2 (turnL.getD t 0)) ∧ (mv (t + 1) f).2 = (mv t f).1 (walkL.getD t 0)) := ⟨rfl, rfl⟩
      generalize walkL.getD t 0 = p at *
      generalize turnL.getD t 0 = k at *
      generalize (mv t f).2 = c at *
      go_wp2_with (go_at_call 120; refine (rotateN_c _ _ _ hk).mono ?_; rintro e w' ⟨rfl, rfl⟩)
      go_roundw
      case rel =>
        refine ⟨t + 1, by omega, by go_num, ?_, ?_, ?_, ?_⟩
        · rw [HP.out.2]
        · rw [HP.out.1]; exact blk_up HB.out p (rl c k)
        · exact (blk_setne _ _ _ (by omega)).trans HZ.out
        · exact HF.out.set _ _ (.inr (Nat.le_refl _))
      case measure => simp [intOf]; omega
    · have ht24 : t = 24 := by omega
      subst ht24
      have HE := hid (blk_as hb (g := rho f) (mv_rho f))
      clear hb HB
      go_upto_region 8 with fail
      apply wp_region_lit
      refine wpList_ld rfl (.tmp 1) rfl HE.out (by simp [Act.eval]) ?_
      refine wpList_st (g := rho f) rfl (.tmp 2) (.tmp 27) rfl HZ.out (by simp [Act.eval, Act.put]) (by simp [Act.eval, Act.put]) ?_
      have RH := hid (row_heap (g := rho f) HZ.out)
      have RF := hid (HF.out.row (vals 25 (rho f)) (.inr (Nat.le_succ w.heap.size)))
      generalize World.setRow _ (w.heap.size + 1) (vals 25 (rho f)) = w2 at RH RF ⊢
      go_wp2
      exact bodyPost_ret (v := .agg (vals 25 (rho f))) (ret25 rfl RH.out rfl) rfl ⟨rfl, RF.out⟩
end Go.Proofs.YtmpfnglcmaollaaDoor
