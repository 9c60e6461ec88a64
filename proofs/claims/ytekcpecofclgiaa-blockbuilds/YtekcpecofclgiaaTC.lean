/-
  The document's blocks: Of.
-/
import Derived.Test.YtekcpecofclgiaaTA
import Derived.Test.YtekcpecofclgiaaTB
namespace Go.Proofs.Ytekcpecofclgiaa
open Go.ChangeShapes Go.WideShapes Go.ChangeAt Go.RowKit

theorem infoI : (Try.prog.info? 3).map (fun i => (i.zero, i.size, i.bytes)) = some (some (.int .i64 0), 1, 8) := by kernel_rfl
theorem wpList_append_i {w : World} {ops : Array Oper} {rest : List Oper} {o : Oper} {a : Act} {Q : Exit → Act → World → Prop} (hgd : o.guard = none) (s x : Operand)
    (ho : o.op = .call { callee := .builtin .append, args := #[s, x], argTypes := #[89, 89] }) (base : Nat) (hbase : base ≤ w.heap.size) (v : Value) (n : Nat) (xs : List Value) (hs : a.eval s = v) (hown : w.ownsRow base 3 1 v n xs) (G : Nat) (hx : a.eval x = .slice (some ⟨G, 0, none⟩) 1 1) {u : Value} {T : TypeId} (hG : w.heap[G]? = some (.cells #[u] T (0, 0)))
    (hu : u.oneCell' = true) (hl : n ≤ 100000000000)
    (h : ∀ v' w', w'.ownsRow base 3 1 v' (n + 1) (xs ++ [u]) → w.grownBy w' v.ownBlock → wpList Try.prog ops Q rest (a.put o.dst v') w') :
    wpList Try.prog ops Q (o :: rest) a w := by
  obtain ⟨i0, hi, hz0, hz1, hz2⟩ := info_parts infoI
  refine wpList_append_own_at w hgd s x 89 ho base 3 i0 _ 1 8 Try.underlying89 hi hz0 hz1 hz2 rfl (by decide) v n xs hs hown ⟨G, 0, none⟩ 1 1 [u] hx rfl ?_ ?_ (by unfold maxLen; omega) (by omega) hbase fun v' w' h1 h2 _ _ => h v' w' h1 h2
  · intro j u' hj
    rw [Addr.add_lit, Nat.zero_add, blk_cell hG, ← Array.getElem?_toList]
    exact hj
  · intro u' hu'
    simp at hu'
    subst hu'; exact hu
/-- The places of restarts, as numbers. -/
def atL (r : Nat) (ps : Ps) : Nat → List Nat
  | 0 => []
  | i + 1 => if i % r = 0 then atL r ps i ++ [(bod r ps i).length] else atL r ps i
theorem atL_plc (r : Nat) (ps : Ps) : ∀ i, plc r ps i = (atL r ps i).flatMap (fun n => fixL n 4)
  | 0 => rfl
  | i + 1 => by
    rw [plc, atL]
    split
    · rw [List.flatMap_append, ← atL_plc r ps i]; simp
    · exact atL_plc r ps i
theorem atL_len (r : Nat) (ps : Ps) (i : Nat) : (atL r ps i).length = (plc r ps i).length / 4 := by
  rw [atL_plc]
  generalize atL r ps i = l
  induction l with
  | nil => rfl
  | cons x l ih => rw [List.flatMap_cons, List.length_append, fixL_len, List.length_cons, ih]; omega
theorem atL_le (r : Nat) (ps : Ps) : ∀ i, (atL r ps i).length ≤ i
  | 0 => Nat.le_refl _
  | i + 1 => by
    rw [atL]
    have := atL_le r ps i
    split
    · rw [List.length_append]; simp; omega
    · omega
def iv (l : List Nat) : List Value := l.map fun (n : Nat) => .int .i64 (n : Int)
end Go.Proofs.Ytekcpecofclgiaa
