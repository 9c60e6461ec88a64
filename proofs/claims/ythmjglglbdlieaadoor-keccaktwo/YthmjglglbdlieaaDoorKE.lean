/-
  '==' and '!=' of arrays of integers.
-/
import Derived.Test.YthmjglglbdlieaaDoorKH
import Derived.Laws.StructEq
namespace Go.Proofs.YthmjglglbdlieaaDoor
open Go.ChangeShapes Go.WideShapes Go.ChangeAt Go.RowKit

theorem run_eqArr {P : Program} (w : World) (d : Nat) (t e : TypeId) (n : Nat) (k : IntKind) (ht : P.underlying t = some (.array n e)) (he : P.underlying e = some (.int k)) (hsz : ∀ w, (sizeOf e).run P w = .ok 1 w)
    (xs ys : Array Value) (p q : Nat → Int) (hx : ∀ i, i < n → xs[i]? = some (.int k (p i))) (hy : ∀ i, i < n → ys[i]? = some (.int k (q i))) :
    (Op.equalIn (d + 2) t (.agg xs) (.agg ys)).run P w = .ok ((List.range' 0 n 1).all fun i => p i == q i) w := by
  rw [Op.equalIn]
  simp only [Sem.run_bind, run_underlying ht, Result.andThen_ok, hsz, Std.Legacy.Range.forIn_eq_forIn_range', Std.Legacy.Range.size, Nat.sub_zero, Nat.add_sub_cancel, Nat.div_one]
  have hl : ∀ i ∈ List.range' 0 n 1, i < n := fun i hi => by simpa using (List.mem_range'_1.1 hi).2
  generalize List.range' 0 n 1 = l at hl ⊢
  induction l with
  | nil => simp
  | cons i l ih =>
    have hi : i < n := hl i (by simp)
    have px : (part e xs (i * 1)).run P w = .ok (.int k (p i)) w := by
      simp [part, isAgg, run_underlying he, hx i hi]
    have py : (part e ys (i * 1)).run P w = .ok (.int k (q i)) w := by
      simp [part, isAgg, run_underlying he, hy i hi]
    have pe : (Op.equalIn (d + 1) e (.int k (p i)) (.int k (q i))).run P w = .ok (p i == q i) w := by
      rw [run_equalIn_int w d e k k _ _ he]
    simp only [List.forIn_cons, Sem.run_bind, px, py, pe, Result.andThen_ok, List.all_cons]
    cases hb : (p i == q i)
    · simp
    · simp only [Bool.not_true, Bool.false_eq_true, if_false, Sem.run_pure, Result.andThen_ok, Bool.true_and]
      exact ih fun j hj => hl j (by simp [hj])
theorem eql25 (w : World) (f g : Nat → BitVec 64) (h : ∀ i, i < 25 → f i = g i) : (binOp .eql 36 (.agg (vals 25 f)) (.agg (vals 25 g))).run Tryd.prog w = .ok (.bool true) w := by
  rw [run_eql_struct, run_eqArr w 9998 36 35 25 .u64 Tryd.underlying36 Tryd.underlying35 (fun w => by kernel_rfl) _ _ (fun i => ((f i).toNat : Int)) (fun i => ((g i).toNat : Int)) (fun i hi => vals_at f hi) (fun i hi => vals_at g hi)]
  have : ((List.range' 0 25 1).all fun i => ((f i).toNat : Int) == ((g i).toNat : Int)) = true := by
    rw [List.all_eq_true]
    intro i hi
    have := (List.mem_range'_1.1 hi).2
    rw [h i (by omega)]
    simp
  rw [this]
  rfl
theorem neq25 (w : World) (f g : Nat → BitVec 64) (h : ∃ i, i < 25 ∧ f i ≠ g i) : (binOp .neq 36 (.agg (vals 25 f)) (.agg (vals 25 g))).run Tryd.prog w = .ok (.bool true) w := by
  rw [run_neq_struct, run_eqArr w 9998 36 35 25 .u64 Tryd.underlying36 Tryd.underlying35 (fun w => by kernel_rfl) _ _ (fun i => ((f i).toNat : Int)) (fun i => ((g i).toNat : Int)) (fun i hi => vals_at f hi) (fun i hi => vals_at g hi)]
  have : ((List.range' 0 25 1).all fun i => ((f i).toNat : Int) == ((g i).toNat : Int)) = false := by
    rw [List.all_eq_false]
    obtain ⟨i, hi, hn⟩ := h
    refine ⟨i, List.mem_range'_1.2 ⟨Nat.zero_le _, by omega⟩, ?_⟩
    intro e
    apply hn
    apply BitVec.eq_of_toNat_eq
    have := eq_of_beq e
    omega
  rw [this]
  rfl
theorem eql32 (w : World) (f g : Nat → Nat) (h : ∀ i, i < 32 → f i = g i) : (binOp .eql 26 (.agg (bvals 32 f)) (.agg (bvals 32 g))).run Tryd.prog w = .ok (.bool true) w := by
  rw [run_eql_struct, run_eqArr w 9998 26 5 32 .u8 hUnd Tryd.underlying5 (fun w => by kernel_rfl) _ _ (fun i => (f i : Int)) (fun i => (g i : Int)) (fun i hi => bvals_at f hi) (fun i hi => bvals_at g hi)]
  have : ((List.range' 0 32 1).all fun i => (f i : Int) == (g i : Int)) = true := by
    rw [List.all_eq_true]
    intro i hi
    have := (List.mem_range'_1.1 hi).2
    rw [h i (by omega)]
    simp
  rw [this]
  rfl
theorem neq32 (w : World) (f g : Nat → Nat) (h : ∀ i, i < 32 → f i = g i) : (binOp .neq 26 (.agg (bvals 32 f)) (.agg (bvals 32 g))).run Tryd.prog w = .ok (.bool false) w := by
  rw [run_neq_struct, run_eqArr w 9998 26 5 32 .u8 hUnd Tryd.underlying5 (fun w => by kernel_rfl) _ _ (fun i => (f i : Int)) (fun i => (g i : Int)) (fun i hi => bvals_at f hi) (fun i hi => bvals_at g hi)]
  have : ((List.range' 0 32 1).all fun i => (f i : Int) == (g i : Int)) = true := by
    rw [List.all_eq_true]
    intro i hi
    have := (List.mem_range'_1.1 hi).2
    rw [h i (by omega)]
    simp
  rw [this]
  rfl
theorem eqIn25 (w : World) (f g : Nat → BitVec 64) (h : ∀ i, i < 25 → f i = g i) : (Op.equalIn 10000 36 (.agg (vals 25 f)) (.agg (vals 25 g))).run Tryd.prog w = .ok true w := by
  rw [run_eqArr w 9998 36 35 25 .u64 Tryd.underlying36 Tryd.underlying35 (fun w => by kernel_rfl) _ _ (fun i => ((f i).toNat : Int)) (fun i => ((g i).toNat : Int)) (fun i hi => vals_at f hi) (fun i hi => vals_at g hi)]
  congr 1
  rw [List.all_eq_true]
  intro i hi
  have := (List.mem_range'_1.1 hi).2
  rw [h i (by omega)]
  simp
theorem neIn25 (w : World) (f g : Nat → BitVec 64) (h : ∃ i, i < 25 ∧ f i ≠ g i) : (Op.equalIn 10000 36 (.agg (vals 25 f)) (.agg (vals 25 g))).run Tryd.prog w = .ok false w := by
  rw [run_eqArr w 9998 36 35 25 .u64 Tryd.underlying36 Tryd.underlying35 (fun w => by kernel_rfl) _ _ (fun i => ((f i).toNat : Int)) (fun i => ((g i).toNat : Int)) (fun i hi => vals_at f hi) (fun i hi => vals_at g hi)]
  congr 1
  rw [List.all_eq_false]
  obtain ⟨i, hi, hn⟩ := h
  refine ⟨i, List.mem_range'_1.2 ⟨Nat.zero_le _, by omega⟩, ?_⟩
  intro e
  apply hn
  apply BitVec.eq_of_toNat_eq
  have := eq_of_beq e
  omega
theorem eqIn32 (w : World) (f g : Nat → Nat) (h : ∀ i, i < 32 → f i = g i) : (Op.equalIn 10000 26 (.agg (bvals 32 f)) (.agg (bvals 32 g))).run Tryd.prog w = .ok true w := by
  rw [run_eqArr w 9998 26 5 32 .u8 hUnd Tryd.underlying5 (fun w => by kernel_rfl) _ _ (fun i => (f i : Int)) (fun i => (g i : Int)) (fun i hi => bvals_at f hi) (fun i hi => bvals_at g hi)]
  congr 1
  rw [List.all_eq_true]
  intro i hi
  have := (List.mem_range'_1.1 hi).2
  rw [h i (by omega)]
  simp
theorem guard25 : Tryd.prog.eqGuardType Tryd.prog.depth 36 = false := by kernel_rfl
theorem guard32 : Tryd.prog.eqGuardType Tryd.prog.depth 26 = false := by kernel_rfl
end Go.Proofs.YthmjglglbdlieaaDoor
