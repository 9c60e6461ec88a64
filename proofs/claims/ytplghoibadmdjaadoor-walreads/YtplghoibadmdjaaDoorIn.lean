/-
  What slices.Insert answers for bytes of the call's own.
-/
import Derived.Test.YtplghoibadmdjaaDoorCl
import Derived.Laws.CopyOwn
import Derived.Lib.AppendZerosOnto
import Derived.Lib.Overlaps
import Derived.Laws.Externs
namespace Go.Proofs.YtplghoibadmdjaaDoor
open Go.ChangeShapes Go.WideShapes Go.ChangeAt Go.RowKit

theorem sizeB : (Tryd.prog.info? 5).map (·.size) = some 1 := by kernel_rfl
theorem sizeOfB (w : World) : (Go.sizeOf 5).run Tryd.prog w = .ok 1 w := by
  obtain ⟨i0, hi, hz0, hz1, hz2⟩ := info_parts infoB
  simp [sizeOf, typeInfo, hi, hz1]

/-- copy whose run is known, in a walk, and as a step of a region that draws. -/
theorem wpList_copy_is {w : World} {ops : Array Oper} {rest : List Oper} {o : Oper} {a : Act} {Q : Exit → Act → World → Prop} (hgd : o.guard = none) (d s : Operand)
    (ho : o.op = .call { callee := .builtin .copy, args := #[d, s], argTypes := #[22, 22] }) {v u : Value} (hd : a.eval d = v) (hs : a.eval s = u) {v' : Value} {w' : World}
    (hr : (Builtin.copy_ #[22, 22] o.type #[v, u]).run Tryd.prog w = .ok v' w') (h : wpList Tryd.prog ops Q rest (a.put o.dst v') w') : wpList Tryd.prog ops Q (o :: rest) a w := by
  refine wpList_plain hgd fun K hK => ?_
  unfold Oper.wp
  simp [execOp, ho, resolve, invoke, builtin, hd, hs, hr, Result.andThen]
  exact hK _ _ h
theorem step_copy_is {w : World} {ops : Array Oper} {o : Oper} {a : Act} {K : Act → World → Prop} {Q : Exit → Act → World → Prop} {E : Prop} (hgd : o.guard = none) (d s : Operand)
    (ho : o.op = .call { callee := .builtin .copy, args := #[d, s], argTypes := #[22, 22] }) {v u : Value} (hd : a.eval d = v) (hs : a.eval s = u) {v' : Value} {w' : World}
    (hr : (Builtin.copy_ #[22, 22] o.type #[v, u]).run Tryd.prog w = .ok v' w') (h : K (a.put o.dst v') w') : if Region.wanted o (yielded ops a.tmps) = true then Oper.wp Tryd.prog o a w K Q else E := by
  have hw : Region.wanted o (yielded ops a.tmps) = true := by simp [Region.wanted, hgd]
  rw [if_pos hw]
  unfold Oper.wp
  simp [execOp, ho, resolve, invoke, builtin, hd, hs, hr, Result.andThen]
  exact h

/-- A row with something laid over it. -/
def over (L : List Value) (k : Nat) (X : List Value) : List Value := L.take k ++ X ++ L.drop (k + X.length)
theorem over_len {L X : List Value} {k : Nat} (h : k + X.length ≤ L.length) : (over L k X).length = L.length := by
  unfold over; rw [List.length_append, List.length_append, List.length_take, List.length_drop]; omega
theorem over_shift {L X2 Y : List Value} {i m n : Nat} (hY : Y.length = m) (hX : X2.length = n - i) (hi : i ≤ n) (hn : n + m ≤ L.length) :
    (over (over L (i + m) X2) i Y).take (n + m) = L.take i ++ Y ++ X2 := by
  have e1 : (over L (i + m) X2).take i = L.take i := by
    unfold over
    rw [List.append_assoc, List.take_append_of_le_length (by rw [List.length_take]; omega), List.take_take, Nat.min_eq_left (by omega)]
  have e2 : (over L (i + m) X2).drop (i + m) = X2 ++ L.drop (i + m + X2.length) := by
    unfold over
    rw [List.append_assoc, List.drop_left' (by rw [List.length_take]; omega)]
  unfold over at e1 e2 ⊢
  rw [e1, hY, e2, ← List.append_assoc]
  exact List.take_left' (by simp only [List.length_append, List.length_take]; omega)
theorem over_grow {L X2 Y : List Value} {i m n : Nat} (hY : Y.length = m) (hX : X2.length = n - i) (hi : i ≤ n) (hn : n + m ≤ L.length) :
    (over (over L i Y) (i + m) X2).take (n + m) = L.take i ++ Y ++ X2 := by
  have e1 : (over L i Y).take (i + m) = L.take i ++ Y := by
    unfold over
    exact List.take_left' (by simp only [List.length_append, List.length_take]; omega)
  unfold over at e1 ⊢
  rw [e1]
  exact List.take_left' (by simp only [List.length_append, List.length_take]; omega)

theorem copy_over (w : World) {g k dl dc sl sc : Nat} {a : Addr} {cur : List Value} {cs : List Value} (hg : w.heap[g]? = some (.cells cur.toArray 5 (0, 0))) (hn : cs.length = Nat.min sl dl) (hsrc : ∀ j v, cs[j]? = some v → w.cell? (a.add j) = some v) (hfit : k + cs.length ≤ cur.length) (h1 : ∀ v ∈ cs, v.oneCell' = true) (ty : TypeId) :
    (Builtin.copy_ #[22, 22] ty #[.slice (some ⟨g, k, none⟩) dl dc, .slice (some a) sl sc]).run Tryd.prog w = .ok (goInt cs.length) (w.setRow g (over cur k cs).toArray) :=
  run_copy_row Tryd.prog w 22 22 ty 5 g k dl dc a sl sc cur.toArray 5 cs Tryd.underlying22 sizeB hg hn hsrc (by simpa using hfit) h1
theorem cell_heap {w w' : World} (h : w'.heap = w.heap) (a : Addr) : w'.cell? a = w.cell? a := World.cell?_of_block (by rw [h])
theorem setRow_at {w w' : World} {g : Nat} {cur cs : Array Value} {t : TypeId} (hg : w.heap[g]? = some (.cells cur t (0, 0))) (h : w'.heap = w.heap) : (w'.setRow g cs).heap[g]? = some (.cells cs t (0, 0)) := setRow_heap w' g cur cs t (0, 0) (by rw [h]; exact hg)

end Go.Proofs.YtplghoibadmdjaaDoor
