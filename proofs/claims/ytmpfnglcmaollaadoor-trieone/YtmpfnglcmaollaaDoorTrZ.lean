/-
  A key put where a fork stands.
-/
import Derived.Test.YtmpfnglcmaollaaDoorJ24
namespace Go.Proofs.YtmpfnglcmaollaaDoor
open Go.ChangeShapes Go.WideShapes Go.ChangeAt Go.RowKit

theorem NdV.one {S : Nat → Prop} {w : World} {n : Nd} {v : Value} (h : NdV S w n v) : v.oneCell' = true := by
  rcases h.form with ⟨T, x, rfl⟩ | rfl <;> rfl
theorem info16 : (Tryd.prog.info? 127).map (·.size) = some 16 := by kernel_rfl
theorem alloc16 (w : World) : (Instr.alloc 127 true (.tuple #[])).run Tryd.prog w = .ok (.pointer (some ⟨w.heap.size, 0, none⟩)) (w.alloc (.cells #[.nilIface, .nilIface, .nilIface, .nilIface, .nilIface, .nilIface, .nilIface, .nilIface, .nilIface, .nilIface, .nilIface, .nilIface, .nilIface, .nilIface, .nilIface, .nilIface] 127)) := by kernel_rfl
theorem stVar16 {w : World} {p : Nat} {V : Nat → Value} (h : w.heap[p]? = some (.cells #[.nilIface, .nilIface, .nilIface, .nilIface, .nilIface, .nilIface, .nilIface, .nilIface, .nilIface, .nilIface, .nilIface, .nilIface, .nilIface, .nilIface, .nilIface, .nilIface] 127 (0, 0))) (o : ∀ i, i < 16 → (V i).oneCell' = true) : (storeVar 127 ⟨p, 0, none⟩ (.agg #[V 0, V 1, V 2, V 3, V 4, V 5, V 6, V 7, V 8, V 9, V 10, V 11, V 12, V 13, V 14, V 15])).run Tryd.prog w = .ok () (w.setRow p #[V 0, V 1, V 2, V 3, V 4, V 5, V 6, V 7, V 8, V 9, V 10, V 11, V 12, V 13, V 14, V 15]) :=
  run_storeVar_row w p _ _ _ _ h info16 rfl (by simp [o 0 (by omega), o 1 (by omega), o 2 (by omega), o 3 (by omega), o 4 (by omega), o 5 (by omega), o 6 (by omega), o 7 (by omega), o 8 (by omega), o 9 (by omega), o 10 (by omega), o 11 (by omega), o 12 (by omega), o 13 (by omega), o 14 (by omega), o 15 (by omega)])
theorem wpList_alloc16 {ops : Array Oper} {rest : List Oper} {op : Oper} {a : Act} {w : World} {Q : Exit → Act → World → Prop} (hgd : op.guard = none) (ho : op.op = .alloc 127)
    (h : wpList Tryd.prog ops Q rest (a.put op.dst (.pointer (some ⟨w.heap.size, 0, none⟩))) (w.alloc (.cells #[.nilIface, .nilIface, .nilIface, .nilIface, .nilIface, .nilIface, .nilIface, .nilIface, .nilIface, .nilIface, .nilIface, .nilIface, .nilIface, .nilIface, .nilIface, .nilIface] 127))) : wpList Tryd.prog ops Q (op :: rest) a w :=
  wpList_plain hgd fun K hK => by
    unfold Oper.wp execOp
    simp only [ho, Sem.run_bind, alloc16, Result.andThen_ok, Sem.run_pure]
    rw [Oper.upon_value]
    exact hK _ _ h
theorem wpList_st16 {ops : Array Oper} {rest : List Oper} {op : Oper} {a : Act} {w : World} {Q : Exit → Act → World → Prop} (hgd : op.guard = none) (x y : Operand) (ho : op.op = .store 127 x y)
    {p : Nat} {V : Nat → Value} (h0 : w.heap[p]? = some (.cells #[.nilIface, .nilIface, .nilIface, .nilIface, .nilIface, .nilIface, .nilIface, .nilIface, .nilIface, .nilIface, .nilIface, .nilIface, .nilIface, .nilIface, .nilIface, .nilIface] 127 (0, 0))) (o : ∀ i, i < 16 → (V i).oneCell' = true) (hx : a.eval x = .pointer (some ⟨p, 0, none⟩)) (hy : a.eval y = .agg #[V 0, V 1, V 2, V 3, V 4, V 5, V 6, V 7, V 8, V 9, V 10, V 11, V 12, V 13, V 14, V 15]) (h : wpList Tryd.prog ops Q rest (a.put op.dst undef) (w.setRow p #[V 0, V 1, V 2, V 3, V 4, V 5, V 6, V 7, V 8, V 9, V 10, V 11, V 12, V 13, V 14, V 15])) : wpList Tryd.prog ops Q (op :: rest) a w :=
  wpList_plain hgd fun K hK => by
    unfold Oper.wp execOp
    simp only [ho, hx, hy, Instr.storeAt, Instr.sureAddr, Sem.run_bind, Sem.run_pure, Result.andThen_ok, stVar16 h0 o]
    exact hK _ _ h
theorem d_put {W : World} {q : Nat} {T : TypeId} {V : Nat → Value} {r : Value} (h : W.heap[q]? = some (.cells #[V 0, V 1, V 2, V 3, V 4, V 5, V 6, V 7, V 8, V 9, V 10, V 11, V 12, V 13, V 14, V 15] T (0, 0))) {i : Nat} (hi : i < 16) : (W.setCell ⟨q, i, none⟩ r).heap[q]? = some (.cells #[updV V i r 0, updV V i r 1, updV V i r 2, updV V i r 3, updV V i r 4, updV V i r 5, updV V i r 6, updV V i r 7, updV V i r 8, updV V i r 9, updV V i r 10, updV V i r 11, updV V i r 12, updV V i r 13, updV V i r 14, updV V i r 15] T (0, 0)) := by
  rw [blk_set h]
  rcases i with _ | _ | _ | _ | _ | _ | _ | _ | _ | _ | _ | _ | _ | _ | _ | _ | i
  all_goals first | omega | simp [updV]
theorem d_cell {W : World} {q : Nat} {T : TypeId} {V : Nat → Value} (h : W.heap[q]? = some (.cells #[V 0, V 1, V 2, V 3, V 4, V 5, V 6, V 7, V 8, V 9, V 10, V 11, V 12, V 13, V 14, V 15] T (0, 0))) {i : Nat} (hi : i < 16) : W.cell? ⟨q, i, none⟩ = some (V i) := by
  rw [blk_cell h]
  rcases i with _ | _ | _ | _ | _ | _ | _ | _ | _ | _ | _ | _ | _ | _ | _ | _ | i
  all_goals first | omega | rfl
theorem cellsD {w : World} {b : Nat} {T : TypeId} {V : Nat → Value} (h : w.heap[b]? = some (.cells #[V 0, V 1, V 2, V 3, V 4, V 5, V 6, V 7, V 8, V 9, V 10, V 11, V 12, V 13, V 14, V 15] T (0, 0))) : w.cell? ⟨b, 0, none⟩ = some (V 0) ∧ w.cell? ⟨b, 1, none⟩ = some (V 1) ∧ w.cell? ⟨b, 2, none⟩ = some (V 2) ∧ w.cell? ⟨b, 3, none⟩ = some (V 3) ∧ w.cell? ⟨b, 4, none⟩ = some (V 4) ∧ w.cell? ⟨b, 5, none⟩ = some (V 5) ∧ w.cell? ⟨b, 6, none⟩ = some (V 6) ∧ w.cell? ⟨b, 7, none⟩ = some (V 7) ∧ w.cell? ⟨b, 8, none⟩ = some (V 8) ∧ w.cell? ⟨b, 9, none⟩ = some (V 9) ∧ w.cell? ⟨b, 10, none⟩ = some (V 10) ∧ w.cell? ⟨b, 11, none⟩ = some (V 11) ∧ w.cell? ⟨b, 12, none⟩ = some (V 12) ∧ w.cell? ⟨b, 13, none⟩ = some (V 13) ∧ w.cell? ⟨b, 14, none⟩ = some (V 14) ∧ w.cell? ⟨b, 15, none⟩ = some (V 15) :=
  ⟨blk_cell h 0, blk_cell h 1, blk_cell h 2, blk_cell h 3, blk_cell h 4, blk_cell h 5, blk_cell h 6, blk_cell h 7, blk_cell h 8, blk_cell h 9, blk_cell h 10, blk_cell h 11, blk_cell h 12, blk_cell h 13, blk_cell h 14, blk_cell h 15⟩
set_option maxRecDepth 20000 in
set_option maxHeartbeats 3200000 in
theorem putForkHere_c (w : World) {S : Nat → Prop} (HT : Tabs w) (hi : InS S w) {b : Nat} {tv pv vv : Value} {v : List Nat} {c : Nat → Nd} {x : List Nat} {d : Nat} (hn : NdV S w (.fork c x) (.iface 126 (.pointer (some ⟨b, 0, none⟩)))) (hok : okN d (.fork c x)) (hp : Un S w (fun w' => Rd w' pv (bv []))) (hv : Un S w (fun w' => Rd w' vv (bv v))) (hvb : By v) (hvl : v.length ≤ 1024) :
    Calls Tryd.prog 76 #[tv, .pointer (some ⟨b, 0, none⟩), pv, vv] w (PutR S w (.fork c x) [] v) := by
  obtain ⟨pa, pc, e1⟩ := RdS.slice hp
  obtain ⟨va, vc, e2⟩ := RdS.slice hv
  subst e1 e2
  obtain ⟨b', _, _, _, V, xv, e, hbS, h1, h2, h3, h4⟩ := hn
  simp only [Value.iface.injEq, true_and, Value.pointer.injEq, Option.some.injEq, Addr.mk.injEq, and_true] at e
  subst e
  obtain ⟨xa, xc, e4⟩ := RdS.slice h3
  subst e4
  obtain ⟨g1, g2, g3, g4⟩ := hok
  have E2 := hid (bytesEqual_c h3.now hv.now g3 hvb)
  have MF := hid (makeFork_c w HT hi h2 (fun i h => (g2 i h).own) hv hvb hvl)
  obtain ⟨⟨q3, q4, q5, q6, q7, q8, q9, q10, q11, q12, q13, q14, q15, q16, q17, q18⟩, q19⟩ := cellsV h1
  obtain ⟨nx, hnx⟩ : ∃ n, n = x.length := ⟨_, rfl⟩
  obtain ⟨nv, hnv⟩ : ∃ n, n = v.length := ⟨_, rfl⟩
  rw [← hnx] at E2 q19
  rw [← hnv] at E2 MF
  rw [← hnv]
  clear hp hv h1 h2 h3 h4 hnx hnv HT hi hvl hvb g1 g2 g3 g4 hbS
  unfold PutR
  by_cases hxv : x = v
  · rw [decide_eq_true hxv] at E2
    clear MF
    go_enter Tryd.func76, Tryd.ntmps76
    go_wp2_with (go_at_call 78; refine E2.out.mono ?_; rintro e w1 ⟨rfl, h⟩; rw [h]; clear h)
    go_ret2
    exact ⟨.inl ⟨hxv, rfl⟩, Fr.refl _ _⟩
  · rw [decide_eq_false hxv] at E2
    go_enter Tryd.func76, Tryd.ntmps76
    go_wp2_with (first
      | (go_at_call 78; refine E2.out.mono ?_; rintro e w1 ⟨rfl, h⟩; rw [h]; clear h)
      | (go_at_call 96; refine MF.out.mono ?_; rintro e w1 ⟨r, rfl, N, f1⟩; have HN := hid N; have F1 := hid f1; clear N f1))
    go_ret2
    exact ⟨.inr ⟨hxv, r, rfl, HN.out⟩, F1.out⟩
set_option maxRecDepth 20000 in
set_option maxHeartbeats 6400000 in
theorem putForkDown_c (w : World) {S : Nat → Prop} (HT : Tabs w) (hi : InS S w) {b : Nat} {tv pv vv : Value} {i : Nat} {p v : List Nat} {c : Nat → Nd} {x : List Nat} {d : Nat} (hn : NdV S w (.fork c x) (.iface 126 (.pointer (some ⟨b, 0, none⟩)))) (hd : d ≤ 128) (hok : okN d (.fork c x)) (hp : Un S w (fun w' => Rd w' pv (bv (i :: p)))) (hb : Nb (i :: p)) (hl : (i :: p).length ≤ d) (hv : Un S w (fun w' => Rd w' vv (bv v))) (hvb : By v) (hv1 : 1 ≤ v.length) (hvl : v.length ≤ 1024) (ih : ∀ j, PutOk (c j)) :
    Calls Tryd.prog 76 #[tv, .pointer (some ⟨b, 0, none⟩), pv, vv] w (PutR S w (.fork c x) (i :: p) v) := by
  obtain ⟨pa, pc, e1⟩ := RdS.slice hp
  obtain ⟨va, vc, e2⟩ := RdS.slice hv
  subst e1 e2
  obtain ⟨b', _, _, _, V, xv, e, hbS, h1, h2, h3, h4⟩ := hn
  simp only [Value.iface.injEq, true_and, Value.pointer.injEq, Option.some.injEq, Addr.mk.injEq, and_true] at e
  subst e
  obtain ⟨xa, xc, e4⟩ := RdS.slice h3
  subst e4
  obtain ⟨g1, g2, g3, g4⟩ := hok
  have hi16 : i < 16 := hb i (by simp)
  have FN : findN (.fork c x) (i :: p) = findN (c i) p := rfl
  have PN : putN (.fork c x) (i :: p) v = .fork (updN c i (putN (c i) p v)) x := rfl
  obtain ⟨a', s1, hr⟩ := cutU (l := 1) hp rfl (by simp)
  have hSp : ∀ w', Agr S w w' → ∃ q o, pa = some ⟨q, o, none⟩ ∧ w'.cell? ⟨q, o, none⟩ = some (.int .u8 (i : Int)) := fun w' ha => by
    rcases (hp w' ha).split with ⟨h0, _⟩ | ⟨q, o, c2, e, _, _, hcc⟩
    · cases h0
    · simp only [Value.slice.injEq] at e
      exact ⟨q, o, e.1, by have := hcc 0 i rfl; rw [Nat.add_zero] at this; exact this⟩
  obtain ⟨q, o, rfl, _⟩ := hSp w (Agr.refl S w)
  have SK : Hid (∀ w', Agr S w w' → w'.cell? ⟨q, o, none⟩ = some (.int .u8 (i : Int))) := hid fun w' ha => by
    obtain ⟨q', o', e, h⟩ := hSp w' ha
    cases e
    exact h
  have BK : Hid (∀ w', Agr S w w' → w'.cell? ⟨b, 19, none⟩ = some (.slice xa x.length xc)) := hid fun w' ha => by
    have := h1
    rw [← ha b hbS] at this
    exact (cellsV this).2
  have PT := hid (fun (w1 : World) (f : Fr [] w w1) => ih i w1 S tv (V i) _ _ p v (d - 1) (HT.fr f) (hi.fr f) ((h2 i hi16).step (hi.agr f)) (by omega) (g2 i hi16) (hr.step (hi.agr f)) (fun y hy => hb y (by simp [hy])) (by simp at hl; omega) (hv.step (hi.agr f)) hvb hv1 hvl)
  have HOK := hid (putN_ok (g2 i hi16) (fun y hy => hb y (by simp [hy]) : Nb p) (by simp at hl; omega) hvb hv1 hvl)
  have HON := hid (fun j (hj : j < 16) => h2 j hj)
  have HO1 := hid (fun j (hj : j < 16) => (h2 j hj).one)
  have HX := hid h3
  have HG2 := hid g2
  have HG3 := hid g3
  have HG4 := hid g4
  have HTH := hid HT
  have HI := hid hi
  obtain ⟨⟨q3, q4, q5, q6, q7, q8, q9, q10, q11, q12, q13, q14, q15, q16, q17, q18⟩, q19⟩ := cellsV h1
  have hnp1 : 1 ≤ (i :: p).length := by simp
  have s1 : ∀ W', (Instr.sliceAt 33 (.slice (some ⟨q, o, none⟩) (i :: p).length pc) (some (.int .i64 1)) none none).run Tryd.prog W' = .ok (.slice a' ((i :: p).length - 1) (pc - 1)) W' := s1
  obtain ⟨np, hnp⟩ : ∃ n, n = (i :: p).length := ⟨_, rfl⟩
  obtain ⟨nx, hnx⟩ : ∃ n, n = x.length := ⟨_, rfl⟩
  obtain ⟨nv, hnv⟩ : ∃ n, n = v.length := ⟨_, rfl⟩
  rw [← hnx] at BK HX q19
  rw [← hnv] at PT
  rw [← hnp] at PT s1 hnp1
  rw [← hnp, ← hnv]
  have hz : ((np : Int) == 0) = false := beq_eq_false_iff_ne.2 (by omega)
  clear hp hv h1 h2 h3 h4 hnp hnx hnv HT hi hvl hvb hv1 g1 g2 g3 g4 hbS hSp hl hb hr ih q19
  unfold PutR
  rw [FN, PN]
  clear FN PN
  go_enter Tryd.func76, Tryd.ntmps76
  go_upto_region 5 with fail
  apply wp_region_lit
  refine wpList_val (v := .pointer (some ⟨b, 0, none⟩)) (w' := w) rfl (by go_simp) ?_
  refine wpList_val (v := .pointer (some ⟨b, 0, none⟩)) (w' := w) rfl (by go_simp) ?_
  refine wpList_val (v := .pointer (some ⟨b, 3, none⟩)) (w' := w) rfl (by go_simp) ?_
  refine wpList_val (v := .agg #[V 0, V 1, V 2, V 3, V 4, V 5, V 6, V 7, V 8, V 9, V 10, V 11, V 12, V 13, V 14, V 15]) (w' := w) rfl (by go_simp) ?_
  refine wpList_alloc16 rfl rfl ?_
  refine wpList_st16 (V := V) rfl (.tmp 10) (.tmp 32) rfl (blk_new _ _) HO1.out (by simp [Act.eval, Act.put]) (by simp [Act.eval, Act.put]) ?_
  obtain ⟨W, hW⟩ : ∃ W, W = (w.alloc (.cells #[.nilIface, .nilIface, .nilIface, .nilIface, .nilIface, .nilIface, .nilIface, .nilIface, .nilIface, .nilIface, .nilIface, .nilIface, .nilIface, .nilIface, .nilIface, .nilIface] 127)).setRow w.heap.size #[V 0, V 1, V 2, V 3, V 4, V 5, V 6, V 7, V 8, V 9, V 10, V 11, V 12, V 13, V 14, V 15] := ⟨_, rfl⟩
  have F : Hid (Fr [] w W) := hid (by rw [hW]; exact ((Fr.refl _ _).alloc _).rowT _ (.inr (Nat.le_refl _)))
  have YD : Hid (W.heap[w.heap.size]? = some (.cells #[V 0, V 1, V 2, V 3, V 4, V 5, V 6, V 7, V 8, V 9, V 10, V 11, V 12, V 13, V 14, V 15] 127 (0, 0))) := hid (by rw [hW]; exact setRow_heap _ _ _ _ _ _ (blk_new _ _))
  rw [← hW]
  clear hW q3 q4 q5 q6 q7 q8 q9 q10 q11 q12 q13 q14 q15 q16 q17 q18
  simp only [wpList, Act.put, List.setIfInBounds_toArray, List.set_cons_succ, List.set_cons_zero]
  have hWs : Hid (w.heap.size < W.heap.size) := hid (Array.getElem?_eq_some_iff.1 YD.out).1
  have hDS : Hid (¬ S w.heap.size) := hid (fun h => Nat.lt_irrefl _ (HI.out _ h))
  go_upto_region 7 with fail
  refine wp_region_held_drew (S := fun w' => w'.cell? ⟨q, o, none⟩ = some (.int .u8 (i : Int))) (by kernel_rfl) (SK.out _ (HI.out.agr F.out.drew)) (fun hS => ?_)
  refine wpAnyH_take (i := 0) (v := .slice (some ⟨q, o, none⟩) np pc) rfl (by kernel_rfl) (by kernel_rfl) (by kernel_rfl) (fun _ _ _ h => h) (.inl ⟨by rfl, fun wx _ => by go_simp⟩) hS ?_
  simp only [Act.put, List.getElem_toArray, List.getElem_cons_zero, List.setIfInBounds_toArray, List.set_cons_succ, List.set_cons_zero]
  refine wpAnyH_take (i := 1) (v := .pointer (some ⟨q, o, none⟩)) rfl (by kernel_rfl) (by kernel_rfl) (by kernel_rfl) (fun _ _ _ h => h) (.inl ⟨by rfl, fun wx _ => by go_simp; intro h; omega⟩) hS ?_
  simp only [Act.put, List.getElem_toArray, List.getElem_cons_succ, List.getElem_cons_zero, List.setIfInBounds_toArray, List.set_cons_succ, List.set_cons_zero]
  refine wpAnyH_take (i := 2) (v := .int .u8 (i : Int)) rfl (by kernel_rfl) (by kernel_rfl) (by kernel_rfl) (fun _ _ _ h => h) (.inl ⟨by rfl, fun wx hX => by have x0 := hX; go_simp⟩) hS ?_
  simp only [Act.put, List.getElem_toArray, List.getElem_cons_succ, List.getElem_cons_zero, List.setIfInBounds_toArray, List.set_cons_succ, List.set_cons_zero]
  refine wpAnyH_take (i := 3) (v := tv) rfl (by kernel_rfl) (by kernel_rfl) (by kernel_rfl) (fun _ _ _ h => h) (.inl ⟨by rfl, fun wx _ => by go_simp⟩) hS ?_
  simp only [Act.put, List.getElem_toArray, List.getElem_cons_succ, List.getElem_cons_zero, List.setIfInBounds_toArray, List.set_cons_succ, List.set_cons_zero]
  refine wpAnyH_take (i := 4) (v := .slice (some ⟨q, o, none⟩) np pc) rfl (by kernel_rfl) (by kernel_rfl) (by kernel_rfl) (fun _ _ _ h => h) (.inl ⟨by rfl, fun wx _ => by go_simp⟩) hS ?_
  simp only [Act.put, List.getElem_toArray, List.getElem_cons_succ, List.getElem_cons_zero, List.setIfInBounds_toArray, List.set_cons_succ, List.set_cons_zero]
  refine wpAnyH_take (i := 5) (v := .pointer (some ⟨q, o, none⟩)) rfl (by kernel_rfl) (by kernel_rfl) (by kernel_rfl) (fun _ _ _ h => h) (.inl ⟨by rfl, fun wx _ => by go_simp; intro h; omega⟩) hS ?_
  simp only [Act.put, List.getElem_toArray, List.getElem_cons_succ, List.getElem_cons_zero, List.setIfInBounds_toArray, List.set_cons_succ, List.set_cons_zero]
  refine wpAnyH_take (i := 6) (v := .int .u8 (i : Int)) rfl (by kernel_rfl) (by kernel_rfl) (by kernel_rfl) (fun _ _ _ h => h) (.inl ⟨by rfl, fun wx hX => by have x0 := hX; go_simp⟩) hS ?_
  simp only [Act.put, List.getElem_toArray, List.getElem_cons_succ, List.getElem_cons_zero, List.setIfInBounds_toArray, List.set_cons_succ, List.set_cons_zero]
  refine wpAnyH_take (i := 7) (v := .pointer (some ⟨w.heap.size, i, none⟩)) rfl (by kernel_rfl) (by kernel_rfl) (by kernel_rfl) (fun _ _ _ h => h) (.inl ⟨by rfl, fun wx _ => by go_simp; intro h; omega⟩) hS ?_
  simp only [Act.put, List.getElem_toArray, List.getElem_cons_succ, List.getElem_cons_zero, List.setIfInBounds_toArray, List.set_cons_succ, List.set_cons_zero]
  refine wpAnyH_take (i := 9) (v := .slice (some ⟨q, o, none⟩) np pc) rfl (by kernel_rfl) (by kernel_rfl) (by kernel_rfl) (fun _ _ _ h => h) (.inl ⟨by rfl, fun wx _ => by go_simp⟩) hS ?_
  simp only [Act.put, List.getElem_toArray, List.getElem_cons_succ, List.getElem_cons_zero, List.setIfInBounds_toArray, List.set_cons_succ, List.set_cons_zero]
  refine wpAnyH_take (i := 10) (v := (.slice a' (np - 1) (pc - 1))) rfl (by kernel_rfl) (by kernel_rfl) (by kernel_rfl) (fun _ _ _ h => h) (.inl ⟨by rfl, fun wx _ => by have x1 := s1 wx; go_simp⟩) hS ?_
  simp only [Act.put, List.getElem_toArray, List.getElem_cons_succ, List.getElem_cons_zero, List.setIfInBounds_toArray, List.set_cons_succ, List.set_cons_zero]
  refine wpAnyH_take (i := 11) (v := .slice va nv vc) rfl (by kernel_rfl) (by kernel_rfl) (by kernel_rfl) (fun _ _ _ h => h) (.inl ⟨by rfl, fun wx _ => by go_simp⟩) hS ?_
  simp only [Act.put, List.getElem_toArray, List.getElem_cons_succ, List.getElem_cons_zero, List.setIfInBounds_toArray, List.set_cons_succ, List.set_cons_zero]
  have kD : W.drew.cell? ⟨w.heap.size, i, none⟩ = some (V i) := d_cell (by rw [blk_drew]; exact YD.out) hi16
  refine wpAnyH_ready (rs := [8]) (by kernel_rfl) (by simp) ?_
  refine AllReadyH.cons rfl (fun K hK => ?_) AllReadyH.nil
  go_simp
  refine hK.out _ _ hS (fun _ => ?_)
  clear hK K hS kD
  refine wpAnyH_ready (rs := [12]) (by kernel_rfl) (by simp) ?_
  refine AllReadyH.cons rfl (fun K hK => ?_) AllReadyH.nil
  go_simp
  go_at_call 56
  refine (PT.out _ F.out.drew).mono ?_
  rintro e w2 ⟨(⟨hfx, rfl⟩ | ⟨hfx, r, rfl, hN⟩), f2⟩
  · have F2 := hid (F.out.drew.trans f2)
    have YD2 : Hid (w2.heap[w.heap.size]? = some (.cells #[V 0, V 1, V 2, V 3, V 4, V 5, V 6, V 7, V 8, V 9, V 10, V 11, V 12, V 13, V 14, V 15] 127 (0, 0))) := hid (blk_frT (by rw [blk_drew]; exact YD.out) f2)
    clear f2 PT
    go_simp
    have hS2 := SK.out _ (HI.out.agr F2.out)
    refine hK.out _ _ hS2 (fun _ => ?_)
    clear hK K
    refine wpAnyH_take (i := 13) (v := .tuple #[.nilIface, .int .i64 (-1)]) rfl (by kernel_rfl) (by kernel_rfl) (by kernel_rfl) (fun _ _ _ h => h) (.inl ⟨by rfl, fun wx _ => by go_simp⟩) hS2 ?_
    simp only [Act.put, List.getElem_toArray, List.getElem_cons_succ, List.getElem_cons_zero, List.setIfInBounds_toArray, List.set_cons_succ, List.set_cons_zero]
    refine wpAnyH_take (i := 14) (v := .nilIface) rfl (by kernel_rfl) (by kernel_rfl) (by kernel_rfl) (fun _ _ _ h => h) (.inl ⟨by rfl, fun wx _ => by go_simp⟩) hS2 ?_
    simp only [Act.put, List.getElem_toArray, List.getElem_cons_succ, List.getElem_cons_zero, List.setIfInBounds_toArray, List.set_cons_succ, List.set_cons_zero]
    refine wpAnyH_take (i := 15) (v := .int .i64 (-1)) rfl (by kernel_rfl) (by kernel_rfl) (by kernel_rfl) (fun _ _ _ h => h) (.inl ⟨by rfl, fun wx _ => by go_simp⟩) hS2 ?_
    simp only [Act.put, List.getElem_toArray, List.getElem_cons_succ, List.getElem_cons_zero, List.setIfInBounds_toArray, List.set_cons_succ, List.set_cons_zero]
    refine wpAnyH_take (i := 16) (v := .pointer (some ⟨w.heap.size, i, none⟩)) rfl (by kernel_rfl) (by kernel_rfl) (by kernel_rfl) (fun _ _ _ h => h) (.inl ⟨by rfl, fun wx _ => by go_simp; intro h; omega⟩) hS2 ?_
    simp only [Act.put, List.getElem_toArray, List.getElem_cons_succ, List.getElem_cons_zero, List.setIfInBounds_toArray, List.set_cons_succ, List.set_cons_zero]
    have FS : Hid (Fr [] w (w2.setCell ⟨w.heap.size, i, none⟩ .nilIface)) := hid (F2.out.set _ _ (.inr (Nat.le_refl _)))
    refine wpAnyH_ready (rs := [17]) (by kernel_rfl) (by simp) ?_
    refine AllReadyH.cons rfl (fun K hK => ?_) AllReadyH.nil
    refine step_put1 (q := w.heap.size) (k := i) (u := V i) (r := .nilIface) rfl rfl (.tmp 49) (.tmp 47) rfl (d_cell YD2.out hi16) (blk_frozen YD2.out _) (by simp [Act.eval]) (by simp [Act.eval]) (.inr rfl) ?_
    refine hK.out _ _ (SK.out _ (HI.out.agr FS.out)) (fun hS3 => ?_)
    clear hK K hS2
    refine wpAnyH_take (i := 18) (v := .int .i64 (-1)) rfl (by kernel_rfl) (by kernel_rfl) (by kernel_rfl) (fun _ _ _ h => h) (.inl ⟨by rfl, fun wx _ => by go_simp⟩) hS3 ?_
    simp only [Act.put, List.getElem_toArray, List.getElem_cons_succ, List.getElem_cons_zero, List.setIfInBounds_toArray, List.set_cons_succ, List.set_cons_zero]
    refine wpAnyH_done (by kernel_rfl) ?_ _
    clear hS3
    go_wp2
    go_ret2
    exact ⟨.inl ⟨hfx, rfl⟩, FS.out⟩
  · have F2 := hid (F.out.drew.trans f2)
    have YD2 : Hid (w2.heap[w.heap.size]? = some (.cells #[V 0, V 1, V 2, V 3, V 4, V 5, V 6, V 7, V 8, V 9, V 10, V 11, V 12, V 13, V 14, V 15] 127 (0, 0))) := hid (blk_frT (by rw [blk_drew]; exact YD.out) f2)
    have FD2 := hid f2
    have HN2 := hid hN
    clear f2 PT hN
    go_simp
    have hS2 := SK.out _ (HI.out.agr F2.out)
    refine hK.out _ _ hS2 (fun _ => ?_)
    clear hK K
    refine wpAnyH_take (i := 13) (v := .tuple #[r, .int .i64 0]) rfl (by kernel_rfl) (by kernel_rfl) (by kernel_rfl) (fun _ _ _ h => h) (.inl ⟨by rfl, fun wx _ => by go_simp⟩) hS2 ?_
    simp only [Act.put, List.getElem_toArray, List.getElem_cons_succ, List.getElem_cons_zero, List.setIfInBounds_toArray, List.set_cons_succ, List.set_cons_zero]
    refine wpAnyH_take (i := 14) (v := r) rfl (by kernel_rfl) (by kernel_rfl) (by kernel_rfl) (fun _ _ _ h => h) (.inl ⟨by rfl, fun wx _ => by go_simp⟩) hS2 ?_
    simp only [Act.put, List.getElem_toArray, List.getElem_cons_succ, List.getElem_cons_zero, List.setIfInBounds_toArray, List.set_cons_succ, List.set_cons_zero]
    refine wpAnyH_take (i := 15) (v := .int .i64 0) rfl (by kernel_rfl) (by kernel_rfl) (by kernel_rfl) (fun _ _ _ h => h) (.inl ⟨by rfl, fun wx _ => by go_simp⟩) hS2 ?_
    simp only [Act.put, List.getElem_toArray, List.getElem_cons_succ, List.getElem_cons_zero, List.setIfInBounds_toArray, List.set_cons_succ, List.set_cons_zero]
    refine wpAnyH_take (i := 16) (v := .pointer (some ⟨w.heap.size, i, none⟩)) rfl (by kernel_rfl) (by kernel_rfl) (by kernel_rfl) (fun _ _ _ h => h) (.inl ⟨by rfl, fun wx _ => by go_simp; intro h; omega⟩) hS2 ?_
    simp only [Act.put, List.getElem_toArray, List.getElem_cons_succ, List.getElem_cons_zero, List.setIfInBounds_toArray, List.set_cons_succ, List.set_cons_zero]
    have FS : Hid (Fr [] w (w2.setCell ⟨w.heap.size, i, none⟩ r)) := hid (F2.out.set _ _ (.inr (Nat.le_refl _)))
    have FG : Hid (Fr [w.heap.size] w2 (w2.setCell ⟨w.heap.size, i, none⟩ r)) := hid ((Fr.refl _ _).set _ _ (.inl (by simp)))
    have YS := hid (d_put (r := r) YD2.out hi16)
    refine wpAnyH_ready (rs := [17]) (by kernel_rfl) (by simp) ?_
    refine AllReadyH.cons rfl (fun K hK => ?_) AllReadyH.nil
    refine step_put1 (q := w.heap.size) (k := i) (u := V i) (r := r) rfl rfl (.tmp 49) (.tmp 47) rfl (d_cell YD2.out hi16) (blk_frozen YD2.out _) (by simp [Act.eval]) (by simp [Act.eval]) HN2.out.form ?_
    refine hK.out _ _ (SK.out _ (HI.out.agr FS.out)) (fun hS3 => ?_)
    clear hK K hS2
    refine wpAnyH_take (i := 18) (v := .int .i64 0) rfl (by kernel_rfl) (by kernel_rfl) (by kernel_rfl) (fun _ _ _ h => h) (.inl ⟨by rfl, fun wx _ => by go_simp⟩) hS3 ?_
    simp only [Act.put, List.getElem_toArray, List.getElem_cons_succ, List.getElem_cons_zero, List.setIfInBounds_toArray, List.set_cons_succ, List.set_cons_zero]
    refine wpAnyH_done (by kernel_rfl) ?_ _
    clear hS3
    have zs : Hid ((w2.setCell ⟨w.heap.size, i, none⟩ r).heap.size = w2.heap.size) := hid (by simp [World.setCell])
    have hI2 : Hid (InS (Up S W.drew w2) w2) := hid ((HI.out.fr F.out.drew).up FD2.out)
    have hDU : Hid (¬ Up S W.drew w2 w.heap.size) := hid (fun h => by
      rcases h with h | h
      · exact hDS.out h
      · have h5 : W.heap.size ≤ w.heap.size := by simpa using h.1
        have := hWs.out
        omega)
    have BN := hid (BK.out _ (HI.out.agr FS.out))
    generalize w2.setCell ⟨w.heap.size, i, none⟩ r = w3 at FS FG YS zs BN ⊢
    have hI3 : Hid (InS (Up S W.drew w2) w3) := hid (fun k hk => by rw [zs.out]; exact hI2.out k hk)
    have a23 := hid (hI2.out.agrG hDU.out FG.out)
    have aD := hid (a23.out.trans (hI3.out.agr (Fr.refl [] w3).drew))
    have MF := hid (makeFork_c w3.drew (S := Up S W.drew w2) (V := updV V i r) (vv := .slice xa nx xc) (c := updN c i (putN (c i) p v)) (x := x) (HTH.out.fr FS.out.drew) (hI3.out.fr (Fr.refl [] w3).drew) (fun j hj => by
      show NdV _ _ (if j = i then _ else _) (if j = i then _ else _)
      split
      · exact HN2.out.step aD.out
      · exact (((HON.out j hj).step (HI.out.agr F.out.drew)).up (HI.out.fr F.out.drew) FD2.out).step aD.out) (fun j hj => (updN_ok HG2.out HOK.out j hj).own) (((HX.out.step (HI.out.agr F.out.drew)).up (HI.out.fr F.out.drew) FD2.out).step aD.out) HG3.out HG4.out)
    go_upto_region 10 with fail
    refine wp_region_held_drew (S := fun w' => w'.heap[w.heap.size]? = some (.cells #[updV V i r 0, updV V i r 1, updV V i r 2, updV V i r 3, updV V i r 4, updV V i r 5, updV V i r 6, updV V i r 7, updV V i r 8, updV V i r 9, updV V i r 10, updV V i r 11, updV V i r 12, updV V i r 13, updV V i r 14, updV V i r 15] 127 (0, 0)) ∧ w'.cell? ⟨b, 19, none⟩ = some (.slice xa nx xc)) (by kernel_rfl) ⟨by rw [blk_drew]; exact YS.out, cell_fr BN.out (Fr.refl [] w3).drew⟩ (fun hS => ?_)
    refine wpAnyH_take (i := 0) (v := .agg #[updV V i r 0, updV V i r 1, updV V i r 2, updV V i r 3, updV V i r 4, updV V i r 5, updV V i r 6, updV V i r 7, updV V i r 8, updV V i r 9, updV V i r 10, updV V i r 11, updV V i r 12, updV V i r 13, updV V i r 14, updV V i r 15]) rfl (by kernel_rfl) (by kernel_rfl) (by kernel_rfl) (fun _ _ _ h => h) (.inl ⟨by rfl, fun wx hX => by obtain ⟨x0, _⟩ := hX; obtain ⟨y0, y1, y2, y3, y4, y5, y6, y7, y8, y9, y10, y11, y12, y13, y14, y15⟩ := cellsD (V := updV V i r) x0; go_simp⟩) hS ?_
    simp only [Act.put, List.getElem_toArray, List.getElem_cons_zero, List.setIfInBounds_toArray, List.set_cons_succ, List.set_cons_zero]
    refine wpAnyH_take (i := 1) (v := .pointer (some ⟨b, 0, none⟩)) rfl (by kernel_rfl) (by kernel_rfl) (by kernel_rfl) (fun _ _ _ h => h) (.inl ⟨by rfl, fun wx _ => by go_simp⟩) hS ?_
    simp only [Act.put, List.getElem_toArray, List.getElem_cons_succ, List.getElem_cons_zero, List.setIfInBounds_toArray, List.set_cons_succ, List.set_cons_zero]
    refine wpAnyH_take (i := 2) (v := .pointer (some ⟨b, 0, none⟩)) rfl (by kernel_rfl) (by kernel_rfl) (by kernel_rfl) (fun _ _ _ h => h) (.inl ⟨by rfl, fun wx _ => by go_simp⟩) hS ?_
    simp only [Act.put, List.getElem_toArray, List.getElem_cons_succ, List.getElem_cons_zero, List.setIfInBounds_toArray, List.set_cons_succ, List.set_cons_zero]
    refine wpAnyH_take (i := 3) (v := .pointer (some ⟨b, 19, none⟩)) rfl (by kernel_rfl) (by kernel_rfl) (by kernel_rfl) (fun _ _ _ h => h) (.inl ⟨by rfl, fun wx _ => by go_simp⟩) hS ?_
    simp only [Act.put, List.getElem_toArray, List.getElem_cons_succ, List.getElem_cons_zero, List.setIfInBounds_toArray, List.set_cons_succ, List.set_cons_zero]
    refine wpAnyH_take (i := 4) (v := .slice xa nx xc) rfl (by kernel_rfl) (by kernel_rfl) (by kernel_rfl) (fun _ _ _ h => h) (.inl ⟨by rfl, fun wx hX => by obtain ⟨_, x1⟩ := hX; go_simp⟩) hS ?_
    simp only [Act.put, List.getElem_toArray, List.getElem_cons_succ, List.getElem_cons_zero, List.setIfInBounds_toArray, List.set_cons_succ, List.set_cons_zero]
    refine wpAnyH_ready (rs := [5]) (by kernel_rfl) (by simp) ?_
    refine AllReadyH.cons rfl (fun K hK => ?_) AllReadyH.nil
    go_simp
    go_at_call 96
    refine MF.out.mono ?_
    rintro e w4 ⟨r4, rfl, hN4, f4⟩
    have HN4 := hid hN4
    have F4 := hid (FS.out.drew.trans f4)
    have hS4 : w4.heap[w.heap.size]? = some (.cells #[updV V i r 0, updV V i r 1, updV V i r 2, updV V i r 3, updV V i r 4, updV V i r 5, updV V i r 6, updV V i r 7, updV V i r 8, updV V i r 9, updV V i r 10, updV V i r 11, updV V i r 12, updV V i r 13, updV V i r 14, updV V i r 15] 127 (0, 0)) ∧ w4.cell? ⟨b, 19, none⟩ = some (.slice xa nx xc) := ⟨blk_frT hS.1 f4, cell_fr hS.2 f4⟩
    have F34 := hid ((Fr.refl [] w3).drew.trans f4)
    clear hN4 f4 MF hS
    go_simp
    refine hK.out _ _ hS4 (fun _ => ?_)
    clear hK K
    refine wpAnyH_take (i := 6) (v := r4) rfl (by kernel_rfl) (by kernel_rfl) (by kernel_rfl) (fun _ _ _ h => h) (.inl ⟨by rfl, fun wx _ => by go_simp⟩) hS4 ?_
    simp only [Act.put, List.getElem_toArray, List.getElem_cons_succ, List.getElem_cons_zero, List.setIfInBounds_toArray, List.set_cons_succ, List.set_cons_zero]
    refine wpAnyH_take (i := 7) (v := .int .i64 0) rfl (by kernel_rfl) (by kernel_rfl) (by kernel_rfl) (fun _ _ _ h => h) (.inl ⟨by rfl, fun wx _ => by go_simp⟩) hS4 ?_
    simp only [Act.put, List.getElem_toArray, List.getElem_cons_succ, List.getElem_cons_zero, List.setIfInBounds_toArray, List.set_cons_succ, List.set_cons_zero]
    refine wpAnyH_take (i := 8) (v := r4) rfl (by kernel_rfl) (by kernel_rfl) (by kernel_rfl) (fun _ _ _ h => h) (.inl ⟨by rfl, fun wx _ => by go_simp⟩) hS4 ?_
    simp only [Act.put, List.getElem_toArray, List.getElem_cons_succ, List.getElem_cons_zero, List.setIfInBounds_toArray, List.set_cons_succ, List.set_cons_zero]
    refine wpAnyH_take (i := 9) (v := .int .i64 0) rfl (by kernel_rfl) (by kernel_rfl) (by kernel_rfl) (fun _ _ _ h => h) (.inl ⟨by rfl, fun wx _ => by go_simp⟩) hS4 ?_
    simp only [Act.put, List.getElem_toArray, List.getElem_cons_succ, List.getElem_cons_zero, List.setIfInBounds_toArray, List.set_cons_succ, List.set_cons_zero]
    refine wpAnyH_done (by kernel_rfl) ?_ _
    clear hS4
    go_wp2
    go_ret2
    refine ⟨.inr ⟨hfx, r4, rfl, HN4.out.sub fun k hk => ?_⟩, F4.out⟩
    have z1 := F.out.drew.size
    have z2 := FD2.out.size
    have z3 := zs.out
    have z4 := F34.out.size
    rcases hk with (hk | hk) | hk
    · exact .inl hk
    · exact .inr ⟨by omega, by omega⟩
    · have h5 : w3.heap.size ≤ k := by simpa using hk.1
      exact .inr ⟨by omega, hk.2⟩
end Go.Proofs.YtmpfnglcmaollaaDoor
