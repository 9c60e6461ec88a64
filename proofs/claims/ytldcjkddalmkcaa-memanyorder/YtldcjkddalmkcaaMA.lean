/-
  Towers by value: twelve links out of a block, into one, handed back.
-/
import Derived.Test.YtldcjkddalmkcaaMT
import Derived.Deep.WholeRow
import Derived.Deep.Cut
import Derived.Laws.ResultCell
namespace Go.Proofs.Ytldcjkddalmkcaa
open Go.ChangeShapes Go.WideShapes Go.ChangeAt Go.RowKit

theorem info12 : (Try.prog.info? 68).map (·.size) = some 12 := by kernel_rfl
/-- Twelve links. -/
structure Tw (cs : List Value) : Prop where
  len : cs.length = 12
  ptr : ∀ v ∈ cs, ∃ p, v = .pointer p
theorem Tw.size {cs : List Value} (h : Tw cs) : cs.toArray.size = 12 := by simpa using h.len
theorem Tw.one {cs : List Value} (h : Tw cs) : cs.toArray.all (·.oneCell') = true := by
  rw [Array.all_eq_true_iff_forall_mem]
  intro v hv
  obtain ⟨p, rfl⟩ := h.ptr v (by simpa using hv)
  rfl
theorem tow_tw (h : Nat) (es : List E) : Tw (tow h es) := ⟨tow_len h es, fun _ hv => tow_ptr hv⟩
theorem Tw.set {cs : List Value} (h : Tw cs) (k : Nat) (p : Option Addr) : Tw (cs.set k (.pointer p)) :=
  ⟨by rw [List.length_set]; exact h.len, fun v hv => by
    rcases List.mem_or_eq_of_mem_set hv with x | x
    · exact h.ptr v x
    · exact ⟨p, x⟩⟩
theorem ldT {w : World} {b : Nat} {cs : List Value} (hc : Tw cs) (h : w.heap[b]? = some (.cells cs.toArray 68 (0, 0))) : (loadVar 68 ⟨b, 0, none⟩).run Try.prog w = .ok (.agg cs.toArray) w :=
  run_loadVar_row w b _ _ _ (0, 0) _ h Try.underlying68 rfl (by rw [hc.size]; exact info12)
theorem stT {w : World} {b : Nat} {cs ds : List Value} (hc : Tw cs) (hd : Tw ds) (h : w.heap[b]? = some (.cells cs.toArray 68 (0, 0))) : (storeVar 68 ⟨b, 0, none⟩ (.agg ds.toArray)).run Try.prog w = .ok () (w.setRow b ds.toArray) :=
  run_storeVar_row w b _ _ _ _ h (by rw [hd.size]; exact info12) (by rw [hc.size, hd.size]) hd.one
theorem wpList_ldT {ops : Array Oper} {rest : List Oper} {op : Oper} {a : Act} {w : World} {Q : Exit → Act → World → Prop} (hgd : op.guard = none) (x : Operand) (ho : op.op = .load 68 x)
    {b : Nat} {cs : List Value} (hc : Tw cs) (hb : w.heap[b]? = some (.cells cs.toArray 68 (0, 0))) (hx : a.eval x = .pointer (some ⟨b, 0, none⟩)) (h : wpList Try.prog ops Q rest (a.put op.dst (.agg cs.toArray)) w) : wpList Try.prog ops Q (op :: rest) a w :=
  wpList_plain hgd fun K hK => by
    unfold Oper.wp execOp
    simp only [ho, hx, Instr.loadAt, Instr.sureAddr, Sem.run_bind, Sem.run_pure, Result.andThen_ok, ldT hc hb]
    exact hK _ _ h
theorem wpList_stT {ops : Array Oper} {rest : List Oper} {op : Oper} {a : Act} {w : World} {Q : Exit → Act → World → Prop} (hgd : op.guard = none) (x y : Operand) (ho : op.op = .store 68 x y)
    {b : Nat} {cs ds : List Value} (hc : Tw cs) (hd : Tw ds) (hb : w.heap[b]? = some (.cells cs.toArray 68 (0, 0))) (hx : a.eval x = .pointer (some ⟨b, 0, none⟩)) (hy : a.eval y = .agg ds.toArray) (h : wpList Try.prog ops Q rest (a.put op.dst undef) (w.setRow b ds.toArray)) : wpList Try.prog ops Q (op :: rest) a w :=
  wpList_plain hgd fun K hK => by
    unfold Oper.wp execOp
    simp only [ho, hx, hy, Instr.storeAt, Instr.sureAddr, Sem.run_bind, Sem.run_pure, Result.andThen_ok, stT (ds := ds) hc hd hb]
    exact hK _ _ h
/-- A tower is handed back. -/
theorem retT {fn : Func} {p : Tmp} (h : fn.results = #[.cell p 68]) {tmps : Array Value} {w : World} {b : Nat} {cs : List Value} (hc : Tw cs) (hb : w.heap[b]? = some (.cells cs.toArray 68 (0, 0))) (hp : tmps.getD p undef = .pointer (some ⟨b, 0, none⟩)) :
    (results fn tmps).run Try.prog w = .ok (.agg cs.toArray) w :=
  results_cell_row h tmps w b 68 _ (0, 0) _ hp hb Try.underlying68 rfl (by rw [hc.size]; exact info12)
theorem row_heapT {w : World} {b : Nat} {cs ds : List Value} {t : TypeId} (h : w.heap[b]? = some (.cells cs.toArray t (0, 0))) : (w.setRow b ds.toArray).heap[b]? = some (.cells ds.toArray t (0, 0)) := setRow_heap w b _ _ t _ h
theorem row_ne (w : World) {b k : Nat} (c : Array Value) (h : k ≠ b) : (w.setRow b c).heap[k]? = w.heap[k]? := by
  simp only [World.setRow, Array.getElem?_modify]
  rw [if_neg (fun e => h e.symm)]
theorem Fr.row {S : List Nat} {a b : World} (h : Fr S a b) {p : Nat} (c : Array Value) (hp : p ∈ S ∨ a.heap.size ≤ p) : Fr S a (b.setRow p c) :=
  ⟨h.os, h.tape, h.output, by simpa [World.setRow] using h.size, fun k hk hn => by
    rw [row_ne _ _ (by rcases hp with hp | hp <;> intro e <;> subst e; exact hn hp; omega)]; exact h.block k hk hn⟩
theorem run_indexE (w : World) (a0 a1 a2 a3 a4 a5 a6 a7 a8 a9 a10 a11 : Value) : (Instr.index 68 (.agg #[a0, a1, a2, a3, a4, a5, a6, a7, a8, a9, a10, a11]) (.int .i64 0)).run Try.prog w = .ok a0 w := by kernel_rfl
theorem run_indexT0 {w : World} {cs : List Value} (hc : Tw cs) : (Instr.index 68 (.agg cs.toArray) (.int .i64 0)).run Try.prog w = .ok (cs[0]?.getD undef) w := by
  obtain ⟨h, _⟩ := hc
  match cs, h with
  | [a0, a1, a2, a3, a4, a5, a6, a7, a8, a9, a10, a11], _ => exact run_indexE w a0 a1 a2 a3 a4 a5 a6 a7 a8 a9 a10 a11
end Go.Proofs.Ytldcjkddalmkcaa
