/-
  The statements' own known example.
-/
import Derived.Test.YthmjglglbdlieaaDoorKU
import Derived.Test.YthmjglglbdlieaaDoorKA
import Derived.Lib.SlBytesConst
namespace Go.Proofs.YthmjglglbdlieaaDoor
open Go.ChangeShapes Go.WideShapes Go.ChangeAt Go.RowKit

theorem Rd_alloc1 {w : World} {v : Value} {xs : List Value} (h : Rd w v xs) (o : Obj) : Rd (w.alloc o) v xs := h.fr ((Fr.refl _ _).alloc o)
/-- One slice, laid down as a row of one. -/
theorem Rows2.one {w : World} {u : Value} {x : List Nat} (h : Rd w u (bv x)) (hb : ∀ n ∈ x, n < 256) (hl : x.length ≤ 140737488355328) : Rows2 (w.alloc (.cells #[u] 22)) (.slice (some ⟨w.heap.size, 0, none⟩) 1 1) [u] [x] :=
  ⟨.inr ⟨w.heap.size, 0, 1, rfl, Nat.le_refl _, fun j v hj => by
    cases j with
    | zero =>
      cases hj
      exact blk_cell (blk_new w _) 0
    | succ j => simp at hj⟩, rfl, fun j v y hv hy => by
    cases j with
    | zero =>
      cases hv; cases hy
      exact Rd_alloc1 h _
    | succ j => simp at hv, fun y hy => by
      rw [List.mem_singleton] at hy
      subst hy
      exact ⟨hb, hl⟩⟩

theorem alloc32 (w : World) : (Instr.alloc 26 true (.tuple #[])).run Tryd.prog w = .ok (.pointer (some ⟨w.heap.size, 0, none⟩)) (w.alloc (.cells (bvals 32 (fun _ => 0)) 26)) := by kernel_rfl
/-- A hash is laid into a variable. -/
theorem wpList_made32 {ops : Array Oper} {rest : List Oper} {o1 o2 : Oper} {a : Act} {w : World} {Q : Exit → Act → World → Prop} {t1 t2 : Tmp} {g : Nat → Nat} (g1 : o1.guard = none) (g2 : o2.guard = none) (h1 : o1.op = .alloc 26) (h2 : o2.op = .store 26 (.tmp t1) (.tmp t2)) (d1 : o1.dst = some t1) (d2 : o2.dst = none)
    (hx : (a.put (some t1) (.pointer (some ⟨w.heap.size, 0, none⟩))).eval (.tmp t1) = .pointer (some ⟨w.heap.size, 0, none⟩)) (hy : (a.put (some t1) (.pointer (some ⟨w.heap.size, 0, none⟩))).eval (.tmp t2) = .agg (bvals 32 g))
    (h : wpList Tryd.prog ops Q rest ((a.put (some t1) (.pointer (some ⟨w.heap.size, 0, none⟩))).put none undef) (w.alloc (.cells (bvals 32 g) 26))) : wpList Tryd.prog ops Q (o1 :: o2 :: rest) a w := by
  refine wpList_plain g1 fun K hK => ?_
  unfold Oper.wp execOp
  simp only [h1, Sem.run_bind, alloc32, Result.andThen_ok, Sem.run_pure]
  rw [Oper.upon_value, d1]
  refine hK _ _ ?_
  refine wpList_plain g2 fun K hK => ?_
  unfold Oper.wp execOp
  have hs := stVar32 (g := g) (heap_alloc_last w (.cells (bvals 32 (fun _ => 0)) 26))
  rw [World.setRow_alloc_new] at hs
  simp only [h2, hx, hy, Instr.storeAt, Instr.sureAddr, Sem.run_bind, Sem.run_pure, Result.andThen_ok, hs]
  rw [Oper.upon_skip, d2]
  exact hK _ _ h

set_option maxRecDepth 20000 in
set_option maxHeartbeats 400000 in
theorem known_c (w : World) (T : Tabs w) : Calls Tryd.prog 7 #[] w fun e w' => e = .returned (.bool true) ∧ Fr [] w w' := by
  have HT := hid T
  clear T
  have kc := fun (w : World) (C : Array Value) (n c : Nat) => Lib.run_convert_bytes_const (P := Tryd.prog) w 22 5 C n c Tryd.underlying22 Tryd.underlying5
  go_enter Tryd.func7, Tryd.ntmps7
  go_wp2_with fail
  have R0 : Hid (Rd (w.alloc (.cells #[.int .u8 97, .int .u8 98, .int .u8 99] 5 (3, 4))) (.slice (some ⟨w.heap.size, 0, none⟩) 3 3) (bv [97, 98, 99])) := by
    refine .inr ⟨_, _, rfl, by simp [bv], fun j u hj => ?_⟩
    rw [Addr.add_lit, Nat.zero_add, World.cell?_alloc_mark]
    rw [← Array.getElem?_toList]
    exact hj
  have F0 : Hid (Fr [] w (w.alloc (.cells #[.int .u8 97, .int .u8 98, .int .u8 99] 5 (3, 4)))) := (Fr.refl _ _).alloc _
  have hsz : (w.alloc (.cells #[.int .u8 97, .int .u8 98, .int .u8 99] 5 (3, 4))).heap.size = w.heap.size + 1 := by simp
  generalize w.alloc (.cells #[.int .u8 97, .int .u8 98, .int .u8 99] 5 (3, 4)) = w1 at R0 F0 hsz ⊢
  have HR := hid (Rows2.one R0.out (by decide) (by simp))
  rw [hsz] at HR
  have F1 := hid (F0.out.alloc (.cells #[.slice (some ⟨w.heap.size, 0, none⟩) 3 3] 22))
  refine (sum_c _ (HT.out.fr F1.out) HR.out (by simp)).mono ?_
  rintro e w2 ⟨rfl, f2⟩
  have F2 := hid (F1.out.trans f2)
  clear f2 F1 HR F0 R0 hsz kc
  rename_i hK
  refine hK _ _ ?_
  refine wpList_made32 (t1 := 1) (t2 := 5) (g := hashOf [97, 98, 99]) rfl rfl rfl rfl rfl rfl (by simp [Act.eval, Act.put]) (by simp [Act.eval, Act.put]) ?_
  have hb : (w2.alloc (.cells (bvals 32 (hashOf [97, 98, 99])) 26)).heap[w2.heap.size]? = some (.cells (bvals 32 (hashOf [97, 98, 99])) 26 (0, 0)) := blk_new _ _
  have F3 := hid (F2.out.alloc (.cells (bvals 32 (hashOf [97, 98, 99])) 26))
  have e0 := byte_at hb (i := 0) (by omega)
  have e1 := byte_at hb (i := 31) (by omega)
  rw [known0] at e0
  rw [known31] at e1
  clear hb hK F2
  generalize w2.alloc (.cells (bvals 32 (hashOf [97, 98, 99])) 26) = w3 at F3 e0 e1 ⊢
  go_wp2
  go_ret
  exact ⟨rfl, F3.out⟩
end Go.Proofs.YthmjglglbdlieaaDoor
