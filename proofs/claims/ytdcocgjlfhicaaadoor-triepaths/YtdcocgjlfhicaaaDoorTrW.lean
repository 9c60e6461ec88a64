/-
  A node that isn't far is looked at.
-/
import Derived.Test.YtdcocgjlfhicaaaDoorTrV
namespace Go.Proofs.YtdcocgjlfhicaaaDoor
open Go.ChangeShapes Go.WideShapes Go.ChangeAt Go.RowKit

def z32 : Array Value := bvals 32 (fun _ => 0)
theorem infoFar : (Tryd.prog.info? 111).map (·.size) = some 32 := by kernel_rfl
theorem z32_size : z32.size = 32 := bvals_size _ _
theorem z32_one : z32.all (·.oneCell') = true := by kernel_rfl
theorem allocF (w : World) : (Instr.alloc 111 true (.tuple #[])).run Tryd.prog w = .ok (.pointer (some ⟨w.heap.size, 0, none⟩)) (w.alloc (.cells z32 111)) := by kernel_rfl
theorem stVarF {w : World} {p : Nat} (h : w.heap[p]? = some (.cells z32 111 (0, 0))) : (storeVar 111 ⟨p, 0, none⟩ (.agg z32)).run Tryd.prog w = .ok () (w.setRow p z32) :=
  run_storeVar_row w p _ _ _ _ h (by rw [z32_size]; exact infoFar) rfl z32_one
theorem wpList_allocF {ops : Array Oper} {rest : List Oper} {op : Oper} {a : Act} {w : World} {Q : Exit → Act → World → Prop} (hgd : op.guard = none) (ho : op.op = .alloc 111)
    (h : wpList Tryd.prog ops Q rest (a.put op.dst (.pointer (some ⟨w.heap.size, 0, none⟩))) (w.alloc (.cells z32 111))) : wpList Tryd.prog ops Q (op :: rest) a w :=
  wpList_plain hgd fun K hK => by
    unfold Oper.wp execOp
    simp only [ho, Sem.run_bind, allocF, Result.andThen_ok, Sem.run_pure]
    rw [Oper.upon_value]
    exact hK _ _ h
theorem wpList_stF {ops : Array Oper} {rest : List Oper} {op : Oper} {a : Act} {w : World} {Q : Exit → Act → World → Prop} (hgd : op.guard = none) (x y : Operand) (ho : op.op = .store 111 x y)
    {p : Nat} (h0 : w.heap[p]? = some (.cells z32 111 (0, 0))) (hx : a.eval x = .pointer (some ⟨p, 0, none⟩)) (hy : a.eval y = .agg z32) (h : wpList Tryd.prog ops Q rest (a.put op.dst undef) (w.setRow p z32)) : wpList Tryd.prog ops Q (op :: rest) a w :=
  wpList_plain hgd fun K hK => by
    unfold Oper.wp execOp
    simp only [ho, hx, hy, Instr.storeAt, Instr.sureAddr, Sem.run_bind, Sem.run_pure, Result.andThen_ok, stVarF h0]
    exact hK _ _ h
theorem Fr.rowT {S : List Nat} {a b : World} (h : Fr S a b) {p : Nat} (c : Array Value) (hp : p ∈ S ∨ a.heap.size ≤ p) : Fr S a (b.setRow p c) :=
  ⟨h.os, h.tape, h.output, by simpa [World.setRow] using h.size, fun k hk hn => by
    rw [setRow_other _ _ _ _ (by rcases hp with hp | hp <;> intro e <;> subst e; exact hn hp; omega)]; exact h.block k hk hn⟩
theorem asFar_leaf (w : World) (b : Nat) : (Instr.typeAssert (.iface 127 (.pointer (some ⟨b, 0, none⟩))) 87 111 true).run Tryd.prog w = .ok (.tuple #[.agg z32, .bool false]) w := by
  kernel_rfl
set_option maxRecDepth 20000 in
set_option maxHeartbeats 1600000 in
theorem look_leaf (w : World) (tv : Value) (b : Nat) :
    Calls Tryd.prog 69 #[tv, (.iface 127 (.pointer (some ⟨b, 0, none⟩)))] w fun e w' => e = .returned (.tuple #[(.iface 127 (.pointer (some ⟨b, 0, none⟩))), .int .i64 0]) ∧ Fr [] w w' := by
  have ta := asFar_leaf w b
  go_enter Tryd.func69, Tryd.ntmps69
  go_upto_region 1 with fail
  apply wp_region_lit
  refine wpList_val (v := (.iface 127 (.pointer (some ⟨b, 0, none⟩)))) (w' := w) rfl (by go_simp) ?_
  refine wpList_val (v := .tuple #[.agg z32, .bool false]) (w' := w) rfl (by go_simp) ?_
  refine wpList_val (v := .tuple #[.agg z32, .bool false]) (w' := w) rfl (by go_simp) ?_
  refine wpList_val (v := .agg z32) (w' := w) rfl (by go_simp) ?_
  refine wpList_val (v := .bool false) (w' := w) rfl (by go_simp) ?_
  refine wpList_allocF rfl rfl ?_
  refine wpList_stF rfl (.tmp 6) (.tmp 13) rfl (blk_new _ _) (by simp [Act.eval, Act.put]) (by simp [Act.eval, Act.put]) ?_
  have F : Hid (Fr [] w ((w.alloc (.cells z32 111)).setRow w.heap.size z32)) := hid (((Fr.refl _ _).alloc _).rowT _ (.inr (Nat.le_refl _)))
  generalize (w.alloc (.cells z32 111)).setRow w.heap.size z32 = W at F ⊢
  refine wpList_val (v := .bool false) (w' := W) rfl (by go_simp) ?_
  simp only [wpList, Act.put]
  clear ta
  go_wp2
  go_ret2
  exact ⟨rfl, F.out⟩
theorem asFar_stem (w : World) (b : Nat) : (Instr.typeAssert (.iface 129 (.pointer (some ⟨b, 0, none⟩))) 87 111 true).run Tryd.prog w = .ok (.tuple #[.agg z32, .bool false]) w := by
  kernel_rfl
set_option maxRecDepth 20000 in
set_option maxHeartbeats 1600000 in
theorem look_stem (w : World) (tv : Value) (b : Nat) :
    Calls Tryd.prog 69 #[tv, (.iface 129 (.pointer (some ⟨b, 0, none⟩)))] w fun e w' => e = .returned (.tuple #[(.iface 129 (.pointer (some ⟨b, 0, none⟩))), .int .i64 0]) ∧ Fr [] w w' := by
  have ta := asFar_stem w b
  go_enter Tryd.func69, Tryd.ntmps69
  go_upto_region 1 with fail
  apply wp_region_lit
  refine wpList_val (v := (.iface 129 (.pointer (some ⟨b, 0, none⟩)))) (w' := w) rfl (by go_simp) ?_
  refine wpList_val (v := .tuple #[.agg z32, .bool false]) (w' := w) rfl (by go_simp) ?_
  refine wpList_val (v := .tuple #[.agg z32, .bool false]) (w' := w) rfl (by go_simp) ?_
  refine wpList_val (v := .agg z32) (w' := w) rfl (by go_simp) ?_
  refine wpList_val (v := .bool false) (w' := w) rfl (by go_simp) ?_
  refine wpList_allocF rfl rfl ?_
  refine wpList_stF rfl (.tmp 6) (.tmp 13) rfl (blk_new _ _) (by simp [Act.eval, Act.put]) (by simp [Act.eval, Act.put]) ?_
  have F : Hid (Fr [] w ((w.alloc (.cells z32 111)).setRow w.heap.size z32)) := hid (((Fr.refl _ _).alloc _).rowT _ (.inr (Nat.le_refl _)))
  generalize (w.alloc (.cells z32 111)).setRow w.heap.size z32 = W at F ⊢
  refine wpList_val (v := .bool false) (w' := W) rfl (by go_simp) ?_
  simp only [wpList, Act.put]
  clear ta
  go_wp2
  go_ret2
  exact ⟨rfl, F.out⟩
theorem asFar_fork (w : World) (b : Nat) : (Instr.typeAssert (.iface 131 (.pointer (some ⟨b, 0, none⟩))) 87 111 true).run Tryd.prog w = .ok (.tuple #[.agg z32, .bool false]) w := by
  kernel_rfl
set_option maxRecDepth 20000 in
set_option maxHeartbeats 1600000 in
theorem look_fork (w : World) (tv : Value) (b : Nat) :
    Calls Tryd.prog 69 #[tv, (.iface 131 (.pointer (some ⟨b, 0, none⟩)))] w fun e w' => e = .returned (.tuple #[(.iface 131 (.pointer (some ⟨b, 0, none⟩))), .int .i64 0]) ∧ Fr [] w w' := by
  have ta := asFar_fork w b
  go_enter Tryd.func69, Tryd.ntmps69
  go_upto_region 1 with fail
  apply wp_region_lit
  refine wpList_val (v := (.iface 131 (.pointer (some ⟨b, 0, none⟩)))) (w' := w) rfl (by go_simp) ?_
  refine wpList_val (v := .tuple #[.agg z32, .bool false]) (w' := w) rfl (by go_simp) ?_
  refine wpList_val (v := .tuple #[.agg z32, .bool false]) (w' := w) rfl (by go_simp) ?_
  refine wpList_val (v := .agg z32) (w' := w) rfl (by go_simp) ?_
  refine wpList_val (v := .bool false) (w' := w) rfl (by go_simp) ?_
  refine wpList_allocF rfl rfl ?_
  refine wpList_stF rfl (.tmp 6) (.tmp 13) rfl (blk_new _ _) (by simp [Act.eval, Act.put]) (by simp [Act.eval, Act.put]) ?_
  have F : Hid (Fr [] w ((w.alloc (.cells z32 111)).setRow w.heap.size z32)) := hid (((Fr.refl _ _).alloc _).rowT _ (.inr (Nat.le_refl _)))
  generalize (w.alloc (.cells z32 111)).setRow w.heap.size z32 = W at F ⊢
  refine wpList_val (v := .bool false) (w' := W) rfl (by go_simp) ?_
  simp only [wpList, Act.put]
  clear ta
  go_wp2
  go_ret2
  exact ⟨rfl, F.out⟩
theorem asFar_nil (w : World) : (Instr.typeAssert .nilIface 87 111 true).run Tryd.prog w = .ok (.tuple #[.agg z32, .bool false]) w := by
  kernel_rfl
set_option maxRecDepth 20000 in
set_option maxHeartbeats 1600000 in
theorem look_nil (w : World) (tv : Value) :
    Calls Tryd.prog 69 #[tv, .nilIface] w fun e w' => e = .returned (.tuple #[.nilIface, .int .i64 0]) ∧ Fr [] w w' := by
  have ta := asFar_nil w
  go_enter Tryd.func69, Tryd.ntmps69
  go_upto_region 1 with fail
  apply wp_region_lit
  refine wpList_val (v := .nilIface) (w' := w) rfl (by go_simp) ?_
  refine wpList_val (v := .tuple #[.agg z32, .bool false]) (w' := w) rfl (by go_simp) ?_
  refine wpList_val (v := .tuple #[.agg z32, .bool false]) (w' := w) rfl (by go_simp) ?_
  refine wpList_val (v := .agg z32) (w' := w) rfl (by go_simp) ?_
  refine wpList_val (v := .bool false) (w' := w) rfl (by go_simp) ?_
  refine wpList_allocF rfl rfl ?_
  refine wpList_stF rfl (.tmp 6) (.tmp 13) rfl (blk_new _ _) (by simp [Act.eval, Act.put]) (by simp [Act.eval, Act.put]) ?_
  have F : Hid (Fr [] w ((w.alloc (.cells z32 111)).setRow w.heap.size z32)) := hid (((Fr.refl _ _).alloc _).rowT _ (.inr (Nat.le_refl _)))
  generalize (w.alloc (.cells z32 111)).setRow w.heap.size z32 = W at F ⊢
  refine wpList_val (v := .bool false) (w' := W) rfl (by go_simp) ?_
  simp only [wpList, Act.put]
  clear ta
  go_wp2
  go_ret2
  exact ⟨rfl, F.out⟩
theorem look_c {S : Nat → Prop} {w : World} {n : Nd} {v : Value} (tv : Value) (h : NdV S w n v) (hf : ∀ x, n ≠ .far x) :
    Calls Tryd.prog 69 #[tv, v] w fun e w' => e = .returned (.tuple #[v, .int .i64 0]) ∧ Fr [] w w' := by
  cases n with
  | nil => obtain rfl : v = .nilIface := h; exact look_nil w tv
  | far x => exact absurd rfl (hf x)
  | leaf p x => obtain ⟨b, _, _, _, _, _, rfl, _⟩ := h; exact look_leaf w tv b
  | stem p t => obtain ⟨b, _, _, _, _, _, rfl, _⟩ := h; exact look_stem w tv b
  | fork c x => obtain ⟨b, _, _, _, _, _, rfl, _⟩ := h; exact look_fork w tv b
theorem okN.own {n : Nd} {d : Nat} (h : okN d n) : ∀ x, n ≠ .far x := fun x e => by subst e; exact h.elim
end Go.Proofs.YtdcocgjlfhicaaaDoor
