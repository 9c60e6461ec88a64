/-
  A leaf's item.
-/
import Derived.Test.YtdcocgjlfhicaaaDoorTrH
import Derived.Deep.RegionHeldLaw
namespace Go.Proofs.YtdcocgjlfhicaaaDoor
open Go.ChangeShapes Go.WideShapes Go.ChangeAt Go.RowKit

theorem ItV.agg {n : Nat} {w : World} {v : Value} {x : List Nat} {d c : Nat} (h : ItV n w v x d c) : ∃ l a1 n1 c1 a2 n2 c2, v = .agg #[.bool l, .slice a1 n1 c1, .slice a2 n2 c2] := by
  obtain ⟨t, h1, _⟩ := h
  exact h1.agg
theorem ret_ctU {fn : Func} {p u : Tmp} {ty : TypeId} (h : fn.results = #[.cell p ty, .tmp u]) {tmps : Array Value} {w : World} {g : Nat} {cs : Array Value} {y : Value} (hp : tmps.getD p undef = .pointer (some ⟨g, 0, none⟩)) (hu : tmps.getD u undef = y) (hg : (loadVar ty ⟨g, 0, none⟩).run Tryd.prog w = .ok (.agg cs) w) :
    (results fn tmps).run Tryd.prog w = .ok (.tuple #[.agg cs, y]) w := by
  rw [← hu]
  exact ret_ct h hp hg
theorem asLeaf_y (w : World) (b : Nat) : (Instr.typeAssert (.iface 127 (.pointer (some ⟨b, 0, none⟩))) 87 127 true).run Tryd.prog w = .ok (.tuple #[.pointer (some ⟨b, 0, none⟩), .bool true]) w := by
  kernel_rfl
theorem asLeaf_s (w : World) (b : Nat) : (Instr.typeAssert (.iface 129 (.pointer (some ⟨b, 0, none⟩))) 87 127 true).run Tryd.prog w = .ok (.tuple #[.pointer none, .bool false]) w := by
  kernel_rfl
theorem step_store3 {ops : Array Oper} {o : Oper} {a : Act} {w : World} {K : Act → World → Prop} {Q : Exit → Act → World → Prop} {E : Prop} (hg : o.guard = none) (hd : o.dst = none) (x y : Operand) (hop : o.op = Op.store 85 x y) {q : Nat} {T : TypeId} {u0 u1 u2 : Value} (hq : w.heap[q]? = some (.cells #[u0, u1, u2] T (0, 0))) (hx : a.eval x = .pointer (some ⟨q, 0, none⟩)) {l : Bool} {a0 a1 : Option Addr} {n0 n1 c0 c1 : Nat} (hy : a.eval y = .agg #[.bool l, .slice a0 n0 c0, .slice a1 n1 c1])
    (hK : K a (((w.setCell ⟨q, 0, none⟩ (.bool l)).setCell ⟨q, 1, none⟩ (.slice a0 n0 c0)).setCell ⟨q, 2, none⟩ (.slice a1 n1 c1))) :
    if Region.wanted o (yielded ops a.tmps) = true then Oper.wp Tryd.prog o a w K Q else E := by
  have hw : Region.wanted o (yielded ops a.tmps) = true := by simp [Region.wanted, hg]
  have y0 := blk_cell hq 0
  have y1 := blk_cell hq 1
  have y2 := blk_cell hq 2
  have z0 := blk_frozen hq 0
  have z1 := blk_frozen hq 1
  have z2 := blk_frozen hq 2
  simp at y0 y1 y2
  rw [if_pos hw]
  unfold Oper.wp
  simp [execOp, hop, hx, hy]
  go_simp
  exact hK
set_option maxRecDepth 20000 in
set_option maxHeartbeats 1600000 in
theorem itemLeaf_c (w : World) {b : Nat} {T : TypeId} {r0 r1 r2 pv vv : Value} (hB : w.heap[b]? = some (.cells #[r0, r1, r2, pv, vv] T (0, 0))) {p v : List Nat} (hp : Rd w pv (bv p)) (hok : okP p = true) (hv : Rd w vv (bv v)) (hvb : By v) (hvl : v.length ≤ 140737488355328) (m : Nat) :
    Calls Tryd.prog 54 #[.iface 127 (.pointer (some ⟨b, 0, none⟩))] w fun e w' => ∃ iv, e = .returned (.tuple #[iv, .int .i64 0]) ∧ (∀ w'', (∀ k, w.heap.size ≤ k → k < w'.heap.size → w''.heap[k]? = w'.heap[k]?) → Rd w'' vv (bv v) → ItV (m + 2) w'' iv (lstF (strL (packF p true) ++ strL v)) 2 3) ∧ (∃ l a1 n1 c1 a2 n2 c2, iv = .agg #[.bool l, .slice a1 n1 c1, .slice a2 n2 c2]) ∧ Fr [] w w' := by
  obtain ⟨pa, pc, e1⟩ := hp.form
  obtain ⟨va, vc, e2⟩ := hv.form
  rw [bv_len] at e1 e2
  subst e1 e2
  obtain ⟨np, hnp⟩ : ∃ np, np = p.length := ⟨_, rfl⟩
  obtain ⟨nv, hnv⟩ : ∃ nv, nv = v.length := ⟨_, rfl⟩
  rw [← hnp] at hp hB
  rw [← hnv] at hv hB
  have c3 := blk_cell hB 3
  have c4 := blk_cell hB 4
  simp at c3 c4
  obtain ⟨W, hW⟩ : ∃ W, W = w.alloc (.cells #[.bool false, .slice none 0 0, .slice none 0 0] 85) := ⟨_, rfl⟩
  have F : Hid (Fr [] w W) := hid (by rw [hW]; exact (Fr.refl _ w).alloc _)
  have Y : Hid (W.heap[w.heap.size]? = some (.cells #[.bool false, .slice none 0 0, .slice none 0 0] 85 (0, 0))) := hid (by rw [hW]; exact blk_new _ _)
  have PC : Hid (∀ W', Fr [] w W' → Calls Tryd.prog 75 #[.slice pa np pc, .bool true, .agg #[.bool false, .slice va nv vc, .slice none 0 0]] W' fun e w' => ∃ iv, e = .returned (.tuple #[iv, .int .i64 0]) ∧ (∀ w'', (∀ k, W'.heap.size ≤ k → k < w'.heap.size → w''.heap[k]? = w'.heap[k]?) → Rd w'' (.slice va nv vc) (bv v) → ItV (m + 2) w'' iv (lstF (strL (packF p true) ++ strL v)) 2 3) ∧ (∃ l a1 n1 c1 a2 n2 c2, iv = .agg #[.bool l, .slice a1 n1 c1, .slice a2 n2 c2]) ∧ Fr [] W' w') := hid (fun W' f => (pair_c W' (hp.fr f) true hok (ItV.str (n := m) (hv.fr f) hvb hvl) (Nat.le_refl _)).mono (by
    rintro e w' ⟨iv, rfl, q1, q2, q3⟩
    exact ⟨iv, rfl, fun w'' h1 h2 => q1 w'' h1 (ItV.str h2 hvb hvl), q2, q3⟩))
  have SK : Hid (∀ w', Fr [] w w' → w'.cell? ⟨b, 3, none⟩ = some (.slice pa np pc) ∧ w'.cell? ⟨b, 4, none⟩ = some (.slice va nv vc)) := hid fun w' f => ⟨cell_fr c3 f, cell_fr c4 f⟩
  have YD : Hid (W.drew.heap[w.heap.size]? = some (.cells #[.bool false, .slice none 0 0, .slice none 0 0] 85 (0, 0))) := hid (by rw [blk_drew]; exact Y.out)
  have HNV := hid hnv
  clear hp hv hB c3 c4 hnp hnv hok hvb hvl
  go_enter Tryd.func54, Tryd.ntmps54
  go_upto_region 1 with fail
  rw [← hW]
  clear hW
  have ta := asLeaf_y W b
  go_upto_region 4 with fail
  clear ta
  refine wp_region_held_drew (S := fun w' => w'.cell? ⟨b, 3, none⟩ = some (.slice pa np pc) ∧ w'.cell? ⟨b, 4, none⟩ = some (.slice va nv vc)) (by kernel_rfl) (SK.out _ F.out.drew) (fun hS => ?_)
  refine wpAnyH_take (i := 0) (v := .pointer (some ⟨b, 0, none⟩)) rfl (by kernel_rfl) (by kernel_rfl) (by kernel_rfl) (fun _ _ _ h => h) (.inl ⟨by rfl, fun wx _ => by go_simp⟩) hS ?_
  simp only [Act.put]
  refine wpAnyH_take (i := 1) (v := .pointer (some ⟨b, 0, none⟩)) rfl (by kernel_rfl) (by kernel_rfl) (by kernel_rfl) (fun _ _ _ h => h) (.inl ⟨by rfl, fun wx _ => by go_simp⟩) hS ?_
  simp only [Act.put]
  refine wpAnyH_take (i := 2) (v := .pointer (some ⟨b, 3, none⟩)) rfl (by kernel_rfl) (by kernel_rfl) (by kernel_rfl) (fun _ _ _ h => h) (.inl ⟨by rfl, fun wx _ => by go_simp⟩) hS ?_
  simp only [Act.put]
  refine wpAnyH_take (i := 3) (v := .slice pa np pc) rfl (by kernel_rfl) (by kernel_rfl) (by kernel_rfl) (fun _ _ _ h => h) (.inl ⟨by rfl, fun wx hX => by obtain ⟨x0, x1⟩ := hX; go_simp⟩) hS ?_
  simp only [Act.put]
  refine wpAnyH_take (i := 4) (v := .pointer (some ⟨b, 0, none⟩)) rfl (by kernel_rfl) (by kernel_rfl) (by kernel_rfl) (fun _ _ _ h => h) (.inl ⟨by rfl, fun wx _ => by go_simp⟩) hS ?_
  simp only [Act.put]
  refine wpAnyH_take (i := 5) (v := .pointer (some ⟨b, 0, none⟩)) rfl (by kernel_rfl) (by kernel_rfl) (by kernel_rfl) (fun _ _ _ h => h) (.inl ⟨by rfl, fun wx _ => by go_simp⟩) hS ?_
  simp only [Act.put]
  refine wpAnyH_take (i := 6) (v := .pointer (some ⟨b, 4, none⟩)) rfl (by kernel_rfl) (by kernel_rfl) (by kernel_rfl) (fun _ _ _ h => h) (.inl ⟨by rfl, fun wx _ => by go_simp⟩) hS ?_
  simp only [Act.put]
  refine wpAnyH_take (i := 7) (v := .slice va nv vc) rfl (by kernel_rfl) (by kernel_rfl) (by kernel_rfl) (fun _ _ _ h => h) (.inl ⟨by rfl, fun wx hX => by obtain ⟨x0, x1⟩ := hX; go_simp⟩) hS ?_
  simp only [Act.put]
  refine wpAnyH_take (i := 8) (v := .agg #[.bool false, .slice va nv vc, .slice none 0 0]) rfl (by kernel_rfl) (by kernel_rfl) (by kernel_rfl) (fun _ _ _ h => h) (.inl ⟨by rfl, fun wx _ => by go_simp⟩) hS ?_
  simp only [Act.put]
  clear hS
  refine wpAnyH_ready (rs := [9]) (by kernel_rfl) (by simp) ?_
  refine AllReadyH.cons rfl (fun K hK => ?_) AllReadyH.nil
  go_simp
  go_at_call 75
  refine (PC.out _ F.out.drew).mono ?_
  rintro e w2 ⟨iv, rfl, hI, ⟨l1, a1, n1, c1, a2, n2, c2, rfl⟩, f2⟩
  have HI := hid hI
  have F2 := hid (F.out.drew.trans f2)
  have Y2 := hid (blk_frT YD.out f2)
  clear hI f2
  go_simp
  have hS2 := SK.out _ F2.out
  refine hK.out _ _ hS2 (fun _ => ?_)
  clear hK K
  refine wpAnyH_take (i := 10) (v := .agg #[.bool l1, .slice a1 n1 c1, .slice a2 n2 c2]) rfl (by kernel_rfl) (by kernel_rfl) (by kernel_rfl) (fun _ _ _ h => h) (.inl ⟨by rfl, fun wx _ => by go_simp⟩) hS2 ?_
  simp only [Act.put]
  refine wpAnyH_take (i := 11) (v := .int .i64 0) rfl (by kernel_rfl) (by kernel_rfl) (by kernel_rfl) (fun _ _ _ h => h) (.inl ⟨by rfl, fun wx _ => by go_simp⟩) hS2 ?_
  simp only [Act.put, List.getElem_toArray, List.getElem_cons_succ, List.getElem_cons_zero]
  clear hS2
  have FT := hid (((F2.out.set (p := w.heap.size) 0 (.bool l1) (.inr (Nat.le_refl _))).set (p := w.heap.size) 1 (.slice a1 n1 c1) (.inr (Nat.le_refl _))).set (p := w.heap.size) 2 (.slice a2 n2 c2) (.inr (Nat.le_refl _)))
  have T3 := hid (three_set (u := .bool l1) (v := .slice a1 n1 c1) (t := .slice a2 n2 c2) Y2.out)
  have FI : Hid (Fr [w.heap.size] w2 (((w2.setCell ⟨w.heap.size, 0, none⟩ (.bool l1)).setCell ⟨w.heap.size, 1, none⟩ (.slice a1 n1 c1)).setCell ⟨w.heap.size, 2, none⟩ (.slice a2 n2 c2))) := hid ((((Fr.refl _ _).set _ _ (.inl (by simp))).set _ _ (.inl (by simp))).set _ _ (.inl (by simp)))
  refine wpAnyH_ready (rs := [12]) (by kernel_rfl) (by simp) ?_
  refine AllReadyH.cons rfl (fun K hK => ?_) AllReadyH.nil
  refine step_store3 (l := l1) (a0 := a1) (n0 := n1) (c0 := c1) (a1 := a2) (n1 := n2) (c1 := c2) rfl rfl (.tmp 2) (.tmp 24) rfl Y2.out (by simp [Act.eval]) (by simp [Act.eval]) ?_
  refine hK.out _ _ (SK.out _ FT.out) (fun hS3 => ?_)
  clear hK K
  refine wpAnyH_take (i := 13) (v := .int .i64 0) rfl (by kernel_rfl) (by kernel_rfl) (by kernel_rfl) (fun _ _ _ h => h) (.inl ⟨by rfl, fun wx _ => by go_simp⟩) hS3 ?_
  simp only [Act.put, List.getElem_toArray, List.getElem_cons_succ, List.getElem_cons_zero]
  refine wpAnyH_done (by kernel_rfl) ?_ _
  clear hS3
  go_wp2
  refine bodyPost_ret (v := .tuple #[.agg #[.bool l1, .slice a1 n1 c1, .slice a2 n2 c2], .int .i64 0]) (ret_ctU (p := 2) (u := 3) rfl (by kernel_rfl) (by kernel_rfl) (load_it T3.out)) rfl ?_
  refine ⟨_, rfl, fun w'' hk hR => HI.out w'' (fun k h1 h2 => ?_) (by rw [HNV.out]; exact hR), ⟨_, _, _, _, _, _, _, rfl⟩, FT.out⟩
  have hne : k ≠ w.heap.size := by have := (Array.getElem?_eq_some_iff.1 YD.out).1; omega
  rw [hk k (by have := F.out.drew.size; omega) (Nat.lt_of_lt_of_le h2 FI.out.size), blk_setne _ _ _ hne, blk_setne _ _ _ hne, blk_setne _ _ _ hne]
end Go.Proofs.YtdcocgjlfhicaaaDoor
