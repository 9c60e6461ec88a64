/-
  What hash answers: the hash's bytes.
-/
import Derived.Test.YthmjglglbdlieaaDoorKL
import Derived.Laws.ResultCell
namespace Go.Proofs.YthmjglglbdlieaaDoor
open Go.ChangeShapes Go.WideShapes Go.ChangeAt Go.RowKit

theorem bvals_set (n : Nat) (f : Nat → Nat) (k x : Nat) : (bvals n f).setIfInBounds k (.int .u8 (x : Int)) = bvals n (up f k x) := by
  apply Array.ext_getElem?
  intro i
  rw [Array.getElem?_setIfInBounds, bvals_size]
  by_cases hi : i < n
  · rw [bvals_at _ hi, bvals_at _ hi]
    by_cases hk : k = i
    · subst hk; simp [hi, up_same]
    · rw [if_neg hk, up_ne _ _ (fun e => hk e.symm)]
  · have e1 : (bvals n f)[i]? = none := by rw [Array.getElem?_eq_none]; rw [bvals_size]; omega
    have e2 : (bvals n (up f k x))[i]? = none := by rw [Array.getElem?_eq_none]; rw [bvals_size]; omega
    rw [e1, e2]
    split
    · rename_i e; subst e; simp [hi]
    · rfl
theorem bvals_congr {n : Nat} {f g : Nat → Nat} (h : ∀ i, i < n → f i = g i) : bvals n f = bvals n g := by
  apply Array.ext_getElem?
  intro i
  by_cases hi : i < n
  · rw [bvals_at _ hi, bvals_at _ hi, h i hi]
  · rw [Array.getElem?_eq_none (by rw [bvals_size]; omega), Array.getElem?_eq_none (by rw [bvals_size]; omega)]
theorem bvals_one (n : Nat) (f : Nat → Nat) : (bvals n f).all (·.oneCell') = true := by
  rw [Array.all_eq_true]
  intro i hi
  simp only [bvals, Array.getElem_ofFn]
  rfl
theorem bblk_up {w : World} {b n : Nat} {g : Nat → Nat} {t : TypeId} (h : w.heap[b]? = some (.cells (bvals n g) t (0, 0))) (k x : Nat) :
    (w.setCell ⟨b, k, none⟩ (.int .u8 (x : Int))).heap[b]? = some (.cells (bvals n (up g k x)) t (0, 0)) := by
  have := blk_set h k (.int .u8 (x : Int))
  rw [bvals_set] at this
  exact this
theorem bblk_as {w : World} {b n : Nat} {f g : Nat → Nat} {t : TypeId} (h : w.heap[b]? = some (.cells (bvals n f) t (0, 0))) (e : ∀ i, i < n → f i = g i) : w.heap[b]? = some (.cells (bvals n g) t (0, 0)) := by
  rw [← bvals_congr e]; exact h
theorem byte_at {w : World} {b n : Nat} {f : Nat → Nat} {t : TypeId} (h : w.heap[b]? = some (.cells (bvals n f) t (0, 0))) {i : Nat} (hi : i < n) : w.cell? ⟨b, i, none⟩ = some (.int .u8 (f i : Int)) := by
  rw [blk_cell h, bvals_at _ hi]

theorem info32 : (Tryd.prog.info? 26).map (·.size) = some 32 := by kernel_rfl
theorem hUnd : Tryd.prog.underlying 26 = some (.array 32 5) := by kernel_rfl
theorem ldVar32 {w : World} {b : Nat} {f : Nat → Nat} {t : TypeId} (h : w.heap[b]? = some (.cells (bvals 32 f) t (0, 0))) : (loadVar 26 ⟨b, 0, none⟩).run Tryd.prog w = .ok (.agg (bvals 32 f)) w :=
  run_loadVar_row w b _ _ _ (0, 0) _ h hUnd rfl (by rw [bvals_size]; exact info32)
theorem stVar32 {w : World} {b : Nat} {f g : Nat → Nat} {t : TypeId} (h : w.heap[b]? = some (.cells (bvals 32 f) t (0, 0))) : (storeVar 26 ⟨b, 0, none⟩ (.agg (bvals 32 g))).run Tryd.prog w = .ok () (w.setRow b (bvals 32 g)) :=
  run_storeVar_row w b _ _ _ _ h (by rw [bvals_size]; exact info32) (by rw [bvals_size, bvals_size]) (bvals_one _ _)
theorem wpList_ldH {ops : Array Oper} {rest : List Oper} {op : Oper} {a : Act} {w : World} {Q : Exit → Act → World → Prop} (hgd : op.guard = none) (x : Operand) (ho : op.op = .load 26 x)
    {b : Nat} {f : Nat → Nat} {t : TypeId} (hb : w.heap[b]? = some (.cells (bvals 32 f) t (0, 0))) (hx : a.eval x = .pointer (some ⟨b, 0, none⟩)) (h : wpList Tryd.prog ops Q rest (a.put op.dst (.agg (bvals 32 f))) w) : wpList Tryd.prog ops Q (op :: rest) a w :=
  wpList_plain hgd fun K hK => by
    unfold Oper.wp execOp
    simp only [ho, hx, Instr.loadAt, Instr.sureAddr, Sem.run_bind, Sem.run_pure, Result.andThen_ok, ldVar32 hb]
    exact hK _ _ h
theorem wpList_stH {ops : Array Oper} {rest : List Oper} {op : Oper} {a : Act} {w : World} {Q : Exit → Act → World → Prop} (hgd : op.guard = none) (x y : Operand) (ho : op.op = .store 26 x y)
    {b : Nat} {f g : Nat → Nat} {t : TypeId} (hb : w.heap[b]? = some (.cells (bvals 32 f) t (0, 0))) (hx : a.eval x = .pointer (some ⟨b, 0, none⟩)) (hy : a.eval y = .agg (bvals 32 g)) (h : wpList Tryd.prog ops Q rest (a.put op.dst undef) (w.setRow b (bvals 32 g))) : wpList Tryd.prog ops Q (op :: rest) a w :=
  wpList_plain hgd fun K hK => by
    unfold Oper.wp execOp
    simp only [ho, hx, hy, Instr.storeAt, Instr.sureAddr, Sem.run_bind, Sem.run_pure, Result.andThen_ok, stVar32 (g := g) hb]
    exact hK _ _ h
theorem retH {fn : Func} {p : Tmp} (h : fn.results = #[.cell p 26]) {tmps : Array Value} {w : World} {b : Nat} {f : Nat → Nat} {t : TypeId} (hb : w.heap[b]? = some (.cells (bvals 32 f) t (0, 0))) (hp : tmps.getD p undef = .pointer (some ⟨b, 0, none⟩)) :
    (results fn tmps).run Tryd.prog w = .ok (.agg (bvals 32 f)) w :=
  results_cell_row h tmps w b t _ (0, 0) _ hp hb hUnd rfl (by rw [bvals_size]; exact info32)
theorem brow_heap {w : World} {b n : Nat} {f g : Nat → Nat} {t : TypeId} (h : w.heap[b]? = some (.cells (bvals n f) t (0, 0))) : (w.setRow b (bvals n g)).heap[b]? = some (.cells (bvals n g) t (0, 0)) := setRow_heap w b _ _ t _ h
theorem hb_val (f : Nat → BitVec 64) (k : Nat) : IntKind.u8.wrap (((f (k / 8)).toNat : Int) / 2 ^ (8 * (k % 8))) = (hb f k : Int) := by
  rw [IntKind.wrap_u8']
  unfold hb
  rw [show (((f (k / 8)).toNat : Int) / 2 ^ (8 * (k % 8))) = (((f (k / 8)).toNat / 2 ^ (8 * (k % 8)) : Nat) : Int) from by simp]
  omega
def hbTo (f : Nat → BitVec 64) (k : Nat) : Nat → Nat := fun i => if i < k then hb f i else 0
theorem hbTo_step (f : Nat → BitVec 64) (k : Nat) : up (hbTo f k) k (hb f k) = hbTo f (k + 1) := by
  funext i
  unfold up hbTo
  by_cases h : i = k
  · rw [if_pos h, if_pos (by omega), h]
  · rw [if_neg h]
    by_cases h1 : i < k
    · rw [if_pos h1, if_pos (by omega)]
    · rw [if_neg h1, if_neg (by omega)]

set_option maxRecDepth 20000 in
set_option maxHeartbeats 400000 in
theorem hash_c (w : World) {p : Nat} {s : Sp} (h : IsSp w p s) :
    Calls Tryd.prog 16 #[.pointer (some ⟨p, 0, none⟩)] w fun e w' => e = .returned (.agg (bvals 32 (hb s.f))) ∧ Fr [] w w' := by
  have hp := blk_lt h
  have HS := hid h
  clear h
  go_enter Tryd.func16, Tryd.ntmps16
  go_wp2
  go_loopw [5] (fun v5 wr => ∃ k : Nat, k ≤ 32 ∧ v5 = .int .i64 (k : Int) ∧ wr.heap[w.heap.size]? = some (.cells (bvals 32 (fun _ => 0)) 26 (0, 0)) ∧ wr.heap[w.heap.size + 1]? = some (.cells (bvals 32 (hbTo s.f k)) 26 (0, 0)) ∧ Fr [] w wr) (fun v5 _ => 32 - (intOf v5).toNat)
  case atStart =>
    refine ⟨0, by omega, rfl, ?_, ?_, ((Fr.refl _ _).alloc _).alloc _⟩
    · rw [blk_old _ _ (by simp)]; exact new_at _ _ rfl
    · exact bblk_as (f := fun _ => 0) (new_at _ _ (by simp)) fun i _ => by unfold hbTo; rw [if_neg (by omega)]
  case round =>
    obtain ⟨k, hk, rfl, hr, hh, hf⟩ := hrel
    have HR := hid hr
    have HH := hid hh
    have HF := hid hf
    by_cases hlt : k < 32
    · have e0 := (HS.out.fr hf (by simp)).lane (i := k / 8) (by omega)
      have e1 := byte_at hh (i := k) hlt
      have fz := blk_frozen hh
      have hv := hb_val s.f k
      have HST := hid (hbTo_step s.f k)
      clear hr hh hf
      go_wp2
      go_roundw
      case rel =>
        refine ⟨k + 1, by omega, by go_num, (blk_setne _ _ _ (by omega)).trans HR.out, ?_, HF.out.set _ _ (.inr (by omega))⟩
        rw [← HST.out]
        exact bblk_up HH.out k (hb s.f k)
      case measure => simp [intOf]; omega
    · have hk32 : k = 32 := by omega
      subst hk32
      have HE := hid (bblk_as hh (g := hb s.f) fun i hi => by unfold hbTo; rw [if_pos hi])
      clear hr hh hf
      go_upto_region 7 with fail
      apply wp_region_lit
      refine wpList_ldH rfl (.tmp 3) rfl HE.out (by simp [Act.eval]) ?_
      refine wpList_stH (g := hb s.f) rfl (.tmp 2) (.tmp 23) rfl HR.out (by simp [Act.eval, Act.put]) (by simp [Act.eval, Act.put]) ?_
      have RH := hid (brow_heap (g := hb s.f) HR.out)
      have RF := hid (HF.out.row (bvals 32 (hb s.f)) (.inr (Nat.le_refl w.heap.size)))
      generalize World.setRow _ w.heap.size (bvals 32 (hb s.f)) = w2 at RH RF ⊢
      go_wp2
      exact bodyPost_ret (v := .agg (bvals 32 (hb s.f))) (retH rfl RH.out rfl) rfl ⟨rfl, RF.out⟩
end Go.Proofs.YthmjglglbdlieaaDoor
