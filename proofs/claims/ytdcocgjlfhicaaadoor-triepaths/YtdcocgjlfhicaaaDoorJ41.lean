/-
  '==' and '!=' of arrays of integers.
-/
import Derived.Test.YtdcocgjlfhicaaaDoorJ25
import Derived.Laws.StructEq
import Derived.Test.YtdcocgjlfhicaaaDoorTrAC
namespace Go.Proofs.YtdcocgjlfhicaaaDoor
open Go.ChangeShapes Go.WideShapes Go.ChangeAt Go.RowKit

theorem run_eqArr {P : Program} (w : World) (d : Nat) (t e : TypeId) (n : Nat) (k : IntKind) (ht : P.underlying t = some (.array n e)) (he : P.underlying e = some (.int k)) (hsz : ∀ w, (sizeOf e).run P w = .ok 1 w)
    (xs ys : Array Value) (p q : Nat → Int) (hx : ∀ i, i < n → xs[i]? = some (.int k (p i))) (hy : ∀ i, i < n → ys[i]? = some (.int k (q i))) :
    (Op.equalIn (d + 2) t (.agg xs) (.agg ys)).run P w = .ok ((List.range' 0 n 1).all fun i => p i == q i) w := by
  rw [Op.equalIn]
  simp only [Sem.run_bind, run_underlying ht, Result.andThen_ok, hsz, Std.Legacy.Range.forIn_eq_forIn_range', Std.Legacy.Range.size, Nat.sub_zero, Nat.add_sub_cancel, Nat.div_one]
  have hl : ∀ i ∈ List.range' 0 n 1, i < n := fun i hi => by simpa using (List.mem_range'_1.1 hi).2
  generalize List.range' 0 n 1 = l at hl ⊢
  induction l with
  | nil => simp
  | cons i l ih =>
    have hi : i < n := hl i (by simp)
    have px : (part e xs (i * 1)).run P w = .ok (.int k (p i)) w := by
      simp [part, isAgg, run_underlying he, hx i hi]
    have py : (part e ys (i * 1)).run P w = .ok (.int k (q i)) w := by
      simp [part, isAgg, run_underlying he, hy i hi]
    have pe : (Op.equalIn (d + 1) e (.int k (p i)) (.int k (q i))).run P w = .ok (p i == q i) w := by
      rw [run_equalIn_int w d e k k _ _ he]
    simp only [List.forIn_cons, Sem.run_bind, px, py, pe, Result.andThen_ok, List.all_cons]
    cases hb : (p i == q i)
    · simp
    · simp only [Bool.not_true, Bool.false_eq_true, if_false, Sem.run_pure, Result.andThen_ok, Bool.true_and]
      exact ih fun j hj => hl j (by simp [hj])
theorem eql25 (w : World) (f g : Nat → BitVec 64) (h : ∀ i, i < 25 → f i = g i) : (binOp .eql 76 (.agg (vals 25 f)) (.agg (vals 25 g))).run Tryd.prog w = .ok (.bool true) w := by
  rw [run_eql_struct, run_eqArr w 9998 76 75 25 .u64 Tryd.underlying76 Tryd.underlying75 (fun w => by kernel_rfl) _ _ (fun i => ((f i).toNat : Int)) (fun i => ((g i).toNat : Int)) (fun i hi => vals_at f hi) (fun i hi => vals_at g hi)]
  have : ((List.range' 0 25 1).all fun i => ((f i).toNat : Int) == ((g i).toNat : Int)) = true := by
    rw [List.all_eq_true]
    intro i hi
    have := (List.mem_range'_1.1 hi).2
    rw [h i (by omega)]
    simp
  rw [this]
  rfl
theorem neq25 (w : World) (f g : Nat → BitVec 64) (h : ∃ i, i < 25 ∧ f i ≠ g i) : (binOp .neq 76 (.agg (vals 25 f)) (.agg (vals 25 g))).run Tryd.prog w = .ok (.bool true) w := by
  rw [run_neq_struct, run_eqArr w 9998 76 75 25 .u64 Tryd.underlying76 Tryd.underlying75 (fun w => by kernel_rfl) _ _ (fun i => ((f i).toNat : Int)) (fun i => ((g i).toNat : Int)) (fun i hi => vals_at f hi) (fun i hi => vals_at g hi)]
  have : ((List.range' 0 25 1).all fun i => ((f i).toNat : Int) == ((g i).toNat : Int)) = false := by
    rw [List.all_eq_false]
    obtain ⟨i, hi, hn⟩ := h
    refine ⟨i, List.mem_range'_1.2 ⟨Nat.zero_le _, by omega⟩, ?_⟩
    intro e
    apply hn
    apply BitVec.eq_of_toNat_eq
    have := eq_of_beq e
    omega
  rw [this]
  rfl
theorem eql32 (w : World) (f g : Nat → Nat) (h : ∀ i, i < 32 → f i = g i) : (binOp .eql 36 (.agg (bvals 32 f)) (.agg (bvals 32 g))).run Tryd.prog w = .ok (.bool true) w := by
  rw [run_eql_struct, run_eqArr w 9998 36 5 32 .u8 hUnd Tryd.underlying5 (fun w => by kernel_rfl) _ _ (fun i => (f i : Int)) (fun i => (g i : Int)) (fun i hi => bvals_at f hi) (fun i hi => bvals_at g hi)]
  have : ((List.range' 0 32 1).all fun i => (f i : Int) == (g i : Int)) = true := by
    rw [List.all_eq_true]
    intro i hi
    have := (List.mem_range'_1.1 hi).2
    rw [h i (by omega)]
    simp
  rw [this]
  rfl
theorem neq32 (w : World) (f g : Nat → Nat) (h : ∀ i, i < 32 → f i = g i) : (binOp .neq 36 (.agg (bvals 32 f)) (.agg (bvals 32 g))).run Tryd.prog w = .ok (.bool false) w := by
  rw [run_neq_struct, run_eqArr w 9998 36 5 32 .u8 hUnd Tryd.underlying5 (fun w => by kernel_rfl) _ _ (fun i => (f i : Int)) (fun i => (g i : Int)) (fun i hi => bvals_at f hi) (fun i hi => bvals_at g hi)]
  have : ((List.range' 0 32 1).all fun i => (f i : Int) == (g i : Int)) = true := by
    rw [List.all_eq_true]
    intro i hi
    have := (List.mem_range'_1.1 hi).2
    rw [h i (by omega)]
    simp
  rw [this]
  rfl
theorem eqIn25 (w : World) (f g : Nat → BitVec 64) (h : ∀ i, i < 25 → f i = g i) : (Op.equalIn 10000 76 (.agg (vals 25 f)) (.agg (vals 25 g))).run Tryd.prog w = .ok true w := by
  rw [run_eqArr w 9998 76 75 25 .u64 Tryd.underlying76 Tryd.underlying75 (fun w => by kernel_rfl) _ _ (fun i => ((f i).toNat : Int)) (fun i => ((g i).toNat : Int)) (fun i hi => vals_at f hi) (fun i hi => vals_at g hi)]
  congr 1
  rw [List.all_eq_true]
  intro i hi
  have := (List.mem_range'_1.1 hi).2
  rw [h i (by omega)]
  simp
theorem neIn25 (w : World) (f g : Nat → BitVec 64) (h : ∃ i, i < 25 ∧ f i ≠ g i) : (Op.equalIn 10000 76 (.agg (vals 25 f)) (.agg (vals 25 g))).run Tryd.prog w = .ok false w := by
  rw [run_eqArr w 9998 76 75 25 .u64 Tryd.underlying76 Tryd.underlying75 (fun w => by kernel_rfl) _ _ (fun i => ((f i).toNat : Int)) (fun i => ((g i).toNat : Int)) (fun i hi => vals_at f hi) (fun i hi => vals_at g hi)]
  congr 1
  rw [List.all_eq_false]
  obtain ⟨i, hi, hn⟩ := h
  refine ⟨i, List.mem_range'_1.2 ⟨Nat.zero_le _, by omega⟩, ?_⟩
  intro e
  apply hn
  apply BitVec.eq_of_toNat_eq
  have := eq_of_beq e
  omega
theorem eqIn32 (w : World) (f g : Nat → Nat) (h : ∀ i, i < 32 → f i = g i) : (Op.equalIn 10000 36 (.agg (bvals 32 f)) (.agg (bvals 32 g))).run Tryd.prog w = .ok true w := by
  rw [run_eqArr w 9998 36 5 32 .u8 hUnd Tryd.underlying5 (fun w => by kernel_rfl) _ _ (fun i => (f i : Int)) (fun i => (g i : Int)) (fun i hi => bvals_at f hi) (fun i hi => bvals_at g hi)]
  congr 1
  rw [List.all_eq_true]
  intro i hi
  have := (List.mem_range'_1.1 hi).2
  rw [h i (by omega)]
  simp
theorem guard25 : Tryd.prog.eqGuardType Tryd.prog.depth 76 = false := by kernel_rfl
theorem guard32 : Tryd.prog.eqGuardType Tryd.prog.depth 36 = false := by kernel_rfl
end Go.Proofs.YtdcocgjlfhicaaaDoor
namespace Go.Proofs.YtdcocgjlfhicaaaDoor
open Go.ChangeShapes Go.WideShapes Go.ChangeAt Go.RowKit

theorem encIt_c (w : World) {n : Nat} {v : Value} {x : List Nat} {d c : Nat} (h : ItV n w v x d c) (hn : 16 ≤ n) (hd : d ≤ 16) (hx : x.length ≤ 4000) :
    By x ∧ Calls Tryd.prog 45 #[v] w fun e w' => ∃ v', e = .returned (.tuple #[v', .int .i64 0]) ∧ w'.ownsRow w.heap.size 5 1 v' x.length (bv x) ∧ Fr [] w w' := by
  obtain ⟨t, t1, t2, t3, t4, t5, _⟩ := h
  have hct := cnt_len n t t4
  rw [t2] at hct
  have hbd := bad_ok n t d 1 t4 t5 (by omega)
  have hE0 : encE t = 0 := by unfold encE; rw [if_neg (by omega), if_neg (by rw [t2]; omega)]
  have hEB : encB t = x := by unfold encB; rw [if_pos hE0]; exact t2
  have EC := encode_c w t1 (by omega) (by omega) (by rw [t2]; omega)
  have HXB := enc_by n t t3
  rw [t2] at HXB
  rw [hE0, hEB] at EC
  exact ⟨HXB, EC⟩
theorem ldRd {w : World} {a : Addr} {c : Nat} {l : List Nat} (hl : l.length = 32) (h : Rd w (.slice (some a) 32 c) (bv l)) : (loadVar 36 a).run Tryd.prog w = .ok (.agg (bv l).toArray) w := by
  have hc : ∀ (j : Nat) (v : Value), (bv l)[j]? = some v → w.cell? (a.add j) = some v := by
    rcases h with ⟨h0, _⟩ | ⟨a', c', h1, _, h3⟩
    · cases h0
    · simp only [Value.slice.injEq, Option.some.injEq] at h1
      rw [← h1.1] at h3
      exact h3
  have hl2 : (loadCells a (bv l).length).run Tryd.prog w = .ok (bv l).toArray w := run_loadCells_list (P := Tryd.prog) w a (bv l) (fun j v hv => hc j v hv)
  rw [bv_len, hl] at hl2
  have hi := info32
  cases hq : Tryd.prog.info? 36 with
  | none => rw [hq] at hi; cases hi
  | some i =>
    rw [hq] at hi
    have hs : i.size = 32 := by simpa using hi
    have hagg : (isAgg 36).run Tryd.prog w = .ok true w := by kernel_rfl
    simp [loadVar, Sem.run_bind, hagg, sizeOf, typeInfo, hq, hs, hl2]
theorem arr_at (w : World) (a : Addr) (c : Nat) : (Instr.arrayAt 36 (.slice (some a) 32 c)).run Tryd.prog w = .ok (.pointer (some a)) w := by kernel_rfl
set_option maxRecDepth 20000 in
set_option maxHeartbeats 1600000 in
theorem empty_c (w : World) (HT : Tabs w) :
    Calls Tryd.prog 20 #[] w fun e w' => e = .returned (.agg (bvals 32 (hashOf [128]))) ∧ Fr [] w w' := by
  have HTH := hid HT
  have EC := hid (fun (w1 : World) => encIt_c w1 (ItV.str (n := 20) (w := w1) (bs := .slice none 0 0) (b := []) (.inl ⟨rfl, rfl⟩) (fun x hx => by cases hx) (by simp)) (by omega) (by omega) (by simp [strL, headL]))
  rw [show strL [] = [128] from rfl] at EC
  clear HT
  go_enter Tryd.func20, Tryd.ntmps20
  go_upto_region 1 with fail
  rw [zero32]
  have HR : Hid ((w.alloc (.cells (bvals 32 (fun _ => 0)) 36)).heap[w.heap.size]? = some (.cells (bvals 32 (fun _ => 0)) 36 (0, 0))) := blk_new _ _
  have HF : Hid (Fr [] w (w.alloc (.cells (bvals 32 (fun _ => 0)) 36))) := (Fr.refl _ _).alloc _
  generalize w.alloc (.cells (bvals 32 (fun _ => 0)) 36) = w1 at HR HF ⊢
  go_upto_region 2 with (go_at_call 45; refine (EC.out _).2.mono ?_; rintro e w2 ⟨v', rfl, O, f2⟩; have OO := hid O; have HR2 := hid (blk_frT HR.out f2); have F2 := hid (HF.out.trans f2); clear O f2)
  have RV : Hid (Rd w2 v' (bv [128])) := hid (Rd.ownB OO.out)
  obtain ⟨a3, c3, e3⟩ := RV.out.form
  rw [bv_len] at e3
  subst e3
  have RO := hid (Rows2.oneT RV.out (fun x hx => by simp at hx; omega) (by simp))
  have FA : Hid (Fr [] w2 (w2.alloc (.cells #[.slice a3 ([128] : List Nat).length c3] 22))) := hid ((Fr.refl _ _).alloc _)
  have SC := hid (sum_c _ (HTH.out.fr (F2.out.trans FA.out)) RO.out (by simp))
  rw [show ([[128]] : List (List Nat)).flatten = [128] by simp] at SC
  have HR3 := hid (blk_frT HR2.out FA.out)
  have F3 := hid (F2.out.trans FA.out)
  clear FA
  go_wp2_with fail
  refine SC.out.mono ?_
  rintro e w5 ⟨rfl, f5⟩
  have HR5 := hid (blk_frT HR3.out f5)
  have F5 := hid (F3.out.trans f5)
  clear f5
  rename_i hK
  refine hK _ _ ?_
  refine wpList_stH (g := hashOf [128]) rfl (.tmp 0) (.tmp 10) rfl HR5.out (by simp [Act.eval]) (by simp [Act.eval]) ?_
  have RH := hid (brow_heap (g := hashOf [128]) HR5.out)
  have RF := hid (F5.out.rowT (bvals 32 (hashOf [128])) (.inr (Nat.le_refl w.heap.size)))
  generalize World.setRow w5 w.heap.size (bvals 32 (hashOf [128])) = w7 at RH RF ⊢
  clear HR5 F5 hK
  go_wp2
  exact bodyPost_ret (v := .agg (bvals 32 (hashOf [128]))) (retH rfl RH.out rfl) rfl ⟨rfl, RF.out⟩
set_option maxRecDepth 20000 in
set_option maxHeartbeats 1600000 in
theorem hashOfStr_c (w : World) {a : Addr} {c : Nat} {y : List Nat} {a2 : Option Addr} {n2 c2 : Nat} (hr : Rd w (.slice (some a) 32 c) (bv (hshF y))) :
    Calls Tryd.prog 53 #[.agg #[.bool false, .slice (some a) 32 c, .slice a2 n2 c2]] w fun e w' => e = .returned (.agg (bvals 32 (hashOf y))) ∧ Fr [] w w' := by
  have HRD := hid (fun (w1 : World) (f : Fr [] w w1) => ldRd (hshF_len y) (hr.fr f))
  rw [← hash_bv] at HRD
  clear hr
  go_enter Tryd.func53, Tryd.ntmps53
  go_upto_region 1 with fail
  rw [zero32]
  have F0 : Hid (Fr [] w (w.alloc (.cells #[.bool false, .slice (some a) 32 c, .slice a2 n2 c2] 85))) := (Fr.refl _ _).alloc _
  have X0 : Hid ((w.alloc (.cells #[.bool false, .slice (some a) 32 c, .slice a2 n2 c2] 85)).heap[w.heap.size]? = some (.cells #[.bool false, .slice (some a) 32 c, .slice a2 n2 c2] 85 (0, 0))) := blk_new _ _
  have z0 : Hid ((w.alloc (.cells #[.bool false, .slice (some a) 32 c, .slice a2 n2 c2] 85)).heap.size = w.heap.size + 1) := by unfold Hid; simp
  generalize w.alloc (.cells #[.bool false, .slice (some a) 32 c, .slice a2 n2 c2] 85) = W at F0 X0 z0 ⊢
  obtain ⟨W2, hW2⟩ : ∃ W2, W2 = W.alloc (.cells (bvals 32 (fun _ => 0)) 36) := ⟨_, rfl⟩
  have HR : Hid (W2.heap[w.heap.size + 1]? = some (.cells (bvals 32 (fun _ => 0)) 36 (0, 0))) := hid (by rw [hW2]; exact new_at _ _ z0.out.symm)
  have F2 : Hid (Fr [] w W2) := hid (by rw [hW2]; exact F0.out.alloc _)
  have X2 : Hid (W2.heap[w.heap.size]? = some (.cells #[.bool false, .slice (some a) 32 c, .slice a2 n2 c2] 85 (0, 0))) := hid (by rw [hW2, blk_old _ _ (by rw [z0.out]; omega)]; exact X0.out)
  rw [← hW2]
  clear hW2
  have c0 := blk_cell X2.out 0
  have c1 := blk_cell X2.out 1
  simp at c0 c1
  go_upto_region 2 with fail
  have hld := HRD.out _ F2.out
  have har := arr_at W2 a c
  apply wp_region_lit
  refine wpList_val (v := .pointer (some ⟨w.heap.size, 1, none⟩)) (w' := W2) rfl (by go_simp) ?_
  refine wpList_val (v := .slice (some a) 32 c) (w' := W2) rfl (by go_simp) ?_
  refine wpList_val (v := .pointer (some a)) (w' := W2) rfl (by go_simp) ?_
  refine wpList_val (v := .agg (bvals 32 (hashOf y))) (w' := W2) rfl (by unfold execOp; simp [Act.eval, Act.put, Instr.loadAt, Instr.sureAddr, Result.andThen_ok, hld]) ?_
  refine wpList_stH (g := hashOf y) rfl (.tmp 2) (.tmp 11) rfl HR.out (by simp [Act.eval, Act.put]) (by simp [Act.eval, Act.put]) ?_
  have RH := hid (brow_heap (g := hashOf y) HR.out)
  have RF := hid (F2.out.rowT (p := w.heap.size + 1) (bvals 32 (hashOf y)) (.inr (by omega)))
  generalize World.setRow W2 (w.heap.size + 1) (bvals 32 (hashOf y)) = w7 at RH RF ⊢
  clear HR F2 X2 c0 c1 hld har
  simp only [wpList, Act.put]
  go_wp2
  exact bodyPost_ret (v := .agg (bvals 32 (hashOf y))) (retH rfl RH.out (by simp)) rfl ⟨rfl, RF.out⟩
end Go.Proofs.YtdcocgjlfhicaaaDoor
