/-
  Arrays of lanes as the program's values; the operators on them.
-/
import Derived.Test.YtdcocgjlfhicaaaDoorJ01
import Derived.Test.YtdcocgjlfhicaaaDoorJ14
import Derived.Laws.BitsAllLaws
import Derived.Deep.WholeRow
import Derived.Deep.Cut
import Derived.Laws.ResultCell
namespace Go.Proofs.YtdcocgjlfhicaaaDoor
open Go.ChangeShapes Go.WideShapes Go.ChangeAt Go.RowKit

/-- A lane as the program's value. -/
def lv (x : BitVec 64) : Value := .int .u64 (x.toNat : Int)
/-- An array of n lanes. -/
def vals (n : Nat) (f : Nat → BitVec 64) : Array Value := Array.ofFn (n := n) fun i => lv (f i)
theorem vals_size (n : Nat) (f : Nat → BitVec 64) : (vals n f).size = n := Array.size_ofFn
theorem vals_at {n i : Nat} (f : Nat → BitVec 64) (h : i < n) : (vals n f)[i]? = some (lv (f i)) := by
  unfold vals
  rw [Array.getElem?_ofFn]
  simp [h]
theorem vals_set (n : Nat) (f : Nat → BitVec 64) (k : Nat) (x : BitVec 64) : (vals n f).setIfInBounds k (lv x) = vals n (up f k x) := by
  apply Array.ext_getElem?
  intro i
  rw [Array.getElem?_setIfInBounds, vals_size]
  by_cases hi : i < n
  · rw [vals_at _ hi, vals_at _ hi]
    by_cases hk : k = i
    · subst hk; simp [hi, up_same]
    · rw [if_neg hk, up_ne _ _ (fun e => hk e.symm)]
  · have e1 : (vals n f)[i]? = none := by rw [Array.getElem?_eq_none]; rw [vals_size]; omega
    have e2 : (vals n (up f k x))[i]? = none := by rw [Array.getElem?_eq_none]; rw [vals_size]; omega
    rw [e1, e2]
    split
    · rename_i e; subst e; simp [hi]
    · rfl
theorem vals_congr {n : Nat} {f g : Nat → BitVec 64} (h : ∀ i, i < n → f i = g i) : vals n f = vals n g := by
  apply Array.ext_getElem?
  intro i
  by_cases hi : i < n
  · rw [vals_at _ hi, vals_at _ hi, h i hi]
  · rw [Array.getElem?_eq_none (by rw [vals_size]; omega), Array.getElem?_eq_none (by rw [vals_size]; omega)]
theorem vals_one (n : Nat) (f : Nat → BitVec 64) : (vals n f).all (·.oneCell') = true := by
  rw [Array.all_eq_true]
  intro i hi
  simp only [vals, Array.getElem_ofFn]
  rfl

theorem bits_xor (x y : BitVec 64) : bits .xor .u64 (x.toNat : Int) (y.toNat : Int) = ((x ^^^ y).toNat : Int) := by
  rw [u64_xor_nat _ _ x.isLt y.isLt, BitVec.toNat_xor]
theorem bits_and (x y : BitVec 64) : bits .and .u64 (x.toNat : Int) (y.toNat : Int) = ((x &&& y).toNat : Int) := by
  rw [u64_and_nat _ _ x.isLt y.isLt, BitVec.toNat_and]
theorem bits_or (x y : BitVec 64) : bits .or .u64 (x.toNat : Int) (y.toNat : Int) = ((x ||| y).toNat : Int) := by
  rw [u64_or_nat _ _ x.isLt y.isLt, BitVec.toNat_or]

theorem bits_not (x : BitVec 64) : bits .xor .u64 (if IntKind.u64.signed = true then -1 else IntKind.u64.max) (x.toNat : Int) = ((~~~ x).toNat : Int) := by
  have e : (if IntKind.u64.signed = true then (-1 : Int) else IntKind.u64.max) = ((BitVec.allOnes 64).toNat : Int) := by decide
  rw [e, bits_xor, BitVec.allOnes_xor]
theorem and63 {k : Nat} (hk : k < 64) : bits .and .u64 (k : Int) 63 = (k : Int) := by
  have := u64_and_nat k 63 (by omega) (by omega)
  rw [show k &&& 63 = k from by rw [show (63 : Nat) = 2 ^ 6 - 1 from rfl, Nat.and_two_pow_sub_one_eq_mod]; omega] at this
  exact this

theorem bits_shl (x : BitVec 64) (k : Nat) : IntKind.u64.wrap ((x.toNat : Int) * 2 ^ k) = ((x <<< k).toNat : Int) := by
  rw [IntKind.wrap_u64, BitVec.toNat_shiftLeft, Nat.shiftLeft_eq]
  rw [show ((x.toNat : Int) * 2 ^ k) = ((x.toNat * 2 ^ k : Nat) : Int) from by simp]
  omega
theorem bits_shr (x : BitVec 64) (k : Nat) : (x.toNat : Int) / 2 ^ k = ((x >>> k).toNat : Int) := by
  rw [BitVec.toNat_ushiftRight, Nat.shiftRight_eq_div_pow]
  simp
theorem rot_val (x : BitVec 64) {k : Nat} (hk : k < 64) : bits .or .u64 (IntKind.u64.wrap ((x.toNat : Int) * 2 ^ k)) ((x.toNat : Int) / 2 ^ (64 - k)) = ((x.rotateLeft k).toNat : Int) := by
  rw [bits_shl, bits_shr, bits_or, BitVec.rotateLeft_def, Nat.mod_eq_of_lt hk]
theorem ret_lv {a : Int} {x : BitVec 64} (h : a = (x.toNat : Int)) : Ending.returned (.int .u64 a) = .returned (lv x) := by rw [h]; rfl

set_option maxRecDepth 20000 in
theorem rotate_c (w : World) (x : BitVec 64) (k : Nat) (hk : k < 64) :
    Calls Tryd.prog 119 #[lv x, .int .i64 (k : Int)] w fun e w' => e = .returned (lv (x.rotateLeft k)) ∧ w' = w := by
  have hm := and63 hk
  have hx := x.isLt
  have hr := rot_val x hk
  unfold lv
  go_enter Tryd.func119, Tryd.ntmps119
  go_wp2
  go_ret
  exact ⟨rfl, rfl⟩
set_option maxRecDepth 20000 in
theorem left_c (w : World) (x : BitVec 64) (k : Nat) (hk : k < 64) :
    Calls Tryd.prog 64 #[lv x, .int .i64 (k : Int)] w fun e w' => e = .returned (lv (x.rotateLeft k)) ∧ ∃ n, w' = w.drewN n := by
  have hx := x.isLt
  have hr := rot_val x hk
  by_cases h0 : k = 0
  · subst h0
    clear hr
    rw [rotl_zero]
    unfold lv
    go_enter Tryd.func64, Tryd.ntmps64
    go_wp2
    go_ret
    exact ⟨rfl, 0, rfl⟩
  · have h1 : 0 < k := by omega
    unfold lv
    go_enter Tryd.func64, Tryd.ntmps64
    go_wp2
    go_region
    all_goals (go_wp2; go_ret; exact ⟨rfl, 1, rfl⟩)

/-- A lane turned, under a name that the walk leaves alone. -/
def rl (x : BitVec 64) (k : Nat) : BitVec 64 := x.rotateLeft k
theorem rotate1_c (w : World) (x : BitVec 64) : Calls Tryd.prog 119 #[.int .u64 (x.toNat : Int), .int .i64 1] w fun e w' => e = .returned (.int .u64 ((rl x 1).toNat : Int)) ∧ w' = w := rotate_c w x 1 (by omega)
theorem rotateN_c (w : World) (x : BitVec 64) (k : Nat) (hk : k < 64) : Calls Tryd.prog 119 #[.int .u64 (x.toNat : Int), .int .i64 (k : Int)] w fun e w' => e = .returned (.int .u64 ((rl x k).toNat : Int)) ∧ w' = w := rotate_c w x k hk
theorem left1_c (w : World) (x : BitVec 64) : Calls Tryd.prog 64 #[.int .u64 (x.toNat : Int), .int .i64 1] w fun e w' => e = .returned (.int .u64 ((rl x 1).toNat : Int)) ∧ ∃ n, w' = w.drewN n := left_c w x 1 (by omega)
theorem leftN_c (w : World) (x : BitVec 64) (k : Nat) (hk : k < 64) : Calls Tryd.prog 64 #[.int .u64 (x.toNat : Int), .int .i64 (k : Int)] w fun e w' => e = .returned (.int .u64 ((rl x k).toNat : Int)) ∧ ∃ n, w' = w.drewN n := left_c w x k hk
theorem blk_up {w : World} {b n : Nat} {g : Nat → BitVec 64} {t : TypeId} (h : w.heap[b]? = some (.cells (vals n g) t (0, 0))) (k : Nat) (x : BitVec 64) :
    (w.setCell ⟨b, k, none⟩ (.int .u64 (x.toNat : Int))).heap[b]? = some (.cells (vals n (up g k x)) t (0, 0)) := by
  have := blk_set h k (lv x)
  rw [vals_set] at this
  exact this
theorem lane_at {w : World} {b n : Nat} {f : Nat → BitVec 64} {t : TypeId} (h : w.heap[b]? = some (.cells (vals n f) t (0, 0))) {i : Nat} (hi : i < n) : w.cell? ⟨b, i, none⟩ = some (.int .u64 ((f i).toNat : Int)) := by
  rw [blk_cell h, vals_at _ hi]; rfl
theorem blk_as {w : World} {b n : Nat} {f g : Nat → BitVec 64} {t : TypeId} (h : w.heap[b]? = some (.cells (vals n f) t (0, 0))) (e : ∀ i, i < n → f i = g i) : w.heap[b]? = some (.cells (vals n g) t (0, 0)) := by
  rw [← vals_congr e]; exact h

theorem info25 : (Tryd.prog.info? 76).map (·.size) = some 25 := by kernel_rfl
/-- A whole array of lanes out of its block. -/
theorem ldVar {w : World} {b : Nat} {f : Nat → BitVec 64} (h : w.heap[b]? = some (.cells (vals 25 f) 76 (0, 0))) : (loadVar 76 ⟨b, 0, none⟩).run Tryd.prog w = .ok (.agg (vals 25 f)) w :=
  run_loadVar_row w b _ _ _ (0, 0) _ h Tryd.underlying76 rfl (by rw [vals_size]; exact info25)
theorem ldAt {w : World} {b : Nat} {f : Nat → BitVec 64} (h : w.heap[b]? = some (.cells (vals 25 f) 76 (0, 0))) : (Instr.loadAt 76 (.pointer (some ⟨b, 0, none⟩))).run Tryd.prog w = .ok (.agg (vals 25 f)) w := by
  simp only [Instr.loadAt, Instr.sureAddr, Sem.run_bind, Sem.run_pure, Result.andThen]
  exact ldVar h
theorem ldCells {w : World} {b : Nat} {f : Nat → BitVec 64} (h : w.heap[b]? = some (.cells (vals 25 f) 76 (0, 0))) : (loadCellsFrom ⟨b, 0, none⟩ 0 25 #[]).run Tryd.prog w = .ok (vals 25 f) w := by
  have := run_loadCells_list (P := Tryd.prog) w ⟨b, 0, none⟩ (vals 25 f).toList (fun j v hv => by
    have hadd : (⟨b, 0, none⟩ : Addr).add j = ⟨b, j, none⟩ := by unfold Addr.add; split <;> simp_all
    rw [hadd, blk_cell h]
    simpa using hv)
  simpa [loadCells, vals_size] using this
theorem stVar {w : World} {b : Nat} {f g : Nat → BitVec 64} (h : w.heap[b]? = some (.cells (vals 25 f) 76 (0, 0))) : (storeVar 76 ⟨b, 0, none⟩ (.agg (vals 25 g))).run Tryd.prog w = .ok () (w.setRow b (vals 25 g)) :=
  run_storeVar_row w b _ _ _ _ h (by rw [vals_size]; exact info25) (by rw [vals_size, vals_size]) (vals_one _ _)
theorem stAt {w : World} {b : Nat} {f : Nat → BitVec 64} (h : w.heap[b]? = some (.cells (vals 25 f) 76 (0, 0))) (g : Nat → BitVec 64) : (Instr.storeAt 76 (.pointer (some ⟨b, 0, none⟩)) (.agg (vals 25 g))).run Tryd.prog w = .ok () (w.setRow b (vals 25 g)) := by
  simp only [Instr.storeAt, Instr.sureAddr, Sem.run_bind, Sem.run_pure, Result.andThen]
  exact stVar h
theorem stCells {w : World} {b : Nat} {f : Nat → BitVec 64} (h : w.heap[b]? = some (.cells (vals 25 f) 76 (0, 0))) (g : Nat → BitVec 64) : (storeCells ⟨b, 0, none⟩ (vals 25 g).toList 0).run Tryd.prog w = .ok () (w.setRow b (vals 25 g)) := by
  have := run_storeCells_from (P := Tryd.prog) b 76 (vals 25 g).toList 0 (vals 25 f) w h (by simp [vals_size]) (fun v hv => (Array.all_eq_true_iff_forall_mem.1 (vals_one 25 g)) v (by simpa using hv))
  simpa using this
theorem wpList_ld {ops : Array Oper} {rest : List Oper} {op : Oper} {a : Act} {w : World} {Q : Exit → Act → World → Prop} (hgd : op.guard = none) (x : Operand) (ho : op.op = .load 76 x)
    {b : Nat} {f : Nat → BitVec 64} (hb : w.heap[b]? = some (.cells (vals 25 f) 76 (0, 0))) (hx : a.eval x = .pointer (some ⟨b, 0, none⟩)) (h : wpList Tryd.prog ops Q rest (a.put op.dst (.agg (vals 25 f))) w) : wpList Tryd.prog ops Q (op :: rest) a w :=
  wpList_plain hgd fun K hK => by
    unfold Oper.wp execOp
    simp only [ho, hx, Instr.loadAt, Instr.sureAddr, Sem.run_bind, Sem.run_pure, Result.andThen_ok, ldVar hb]
    exact hK _ _ h
theorem wpList_st {ops : Array Oper} {rest : List Oper} {op : Oper} {a : Act} {w : World} {Q : Exit → Act → World → Prop} (hgd : op.guard = none) (x y : Operand) (ho : op.op = .store 76 x y)
    {b : Nat} {f g : Nat → BitVec 64} (hb : w.heap[b]? = some (.cells (vals 25 f) 76 (0, 0))) (hx : a.eval x = .pointer (some ⟨b, 0, none⟩)) (hy : a.eval y = .agg (vals 25 g)) (h : wpList Tryd.prog ops Q rest (a.put op.dst undef) (w.setRow b (vals 25 g))) : wpList Tryd.prog ops Q (op :: rest) a w :=
  wpList_plain hgd fun K hK => by
    unfold Oper.wp execOp
    simp only [ho, hx, hy, Instr.storeAt, Instr.sureAddr, Sem.run_bind, Sem.run_pure, Result.andThen_ok, stVar (g := g) hb]
    exact hK _ _ h
/-- An array of lanes is handed back. -/
theorem ret25 {fn : Func} {p : Tmp} (h : fn.results = #[.cell p 76]) {tmps : Array Value} {w : World} {b : Nat} {f : Nat → BitVec 64} (hb : w.heap[b]? = some (.cells (vals 25 f) 76 (0, 0))) (hp : tmps.getD p undef = .pointer (some ⟨b, 0, none⟩)) :
    (results fn tmps).run Tryd.prog w = .ok (.agg (vals 25 f)) w :=
  results_cell_row h tmps w b 76 _ (0, 0) _ hp hb Tryd.underlying76 rfl (by rw [vals_size]; exact info25)
theorem row_heap {w : World} {b n : Nat} {f g : Nat → BitVec 64} {t : TypeId} (h : w.heap[b]? = some (.cells (vals n f) t (0, 0))) : (w.setRow b (vals n g)).heap[b]? = some (.cells (vals n g) t (0, 0)) := setRow_heap w b _ _ t _ h
theorem row_ne (w : World) {b k : Nat} (c : Array Value) (h : k ≠ b) : (w.setRow b c).heap[k]? = w.heap[k]? := by
  simp only [World.setRow, Array.getElem?_modify]
  rw [if_neg (fun e => h e.symm)]
theorem Fr.row {S : List Nat} {a b : World} (h : Fr S a b) {p : Nat} (c : Array Value) (hp : p ∈ S ∨ a.heap.size ≤ p) : Fr S a (b.setRow p c) :=
  ⟨h.os, h.tape, h.output, by simpa [World.setRow] using h.size, fun k hk hn => by
    rw [row_ne _ _ (by rcases hp with hp | hp <;> intro e <;> subst e; exact hn hp; omega)]; exact h.block k hk hn⟩
end Go.Proofs.YtdcocgjlfhicaaaDoor
