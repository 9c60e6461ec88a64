/-
  How a node's reference is asked for.
-/
import Derived.Test.YtdcocgjlfhicaaaDoorJ18
namespace Go.Proofs.YtdcocgjlfhicaaaDoor
open Go.ChangeShapes Go.WideShapes Go.ChangeAt Go.RowKit

set_option maxRecDepth 20000 in
theorem meth_leaf (w : World) (b : Nat) {r0 r1 r2 : Value} (c0 : w.cell? ⟨b, 0, none⟩ = some r0) (c1 : w.cell? ⟨b, 1, none⟩ = some r1) (c2 : w.cell? ⟨b, 2, none⟩ = some r2) : Sem.run Tryd.prog (Go.method 297 127 (.pointer (some ⟨b, 0, none⟩)) "moraine/trie.reference") w = .ok (137, .agg #[r0, r1, r2]) w := by
  have h : (Array.find? (fun x => x.name == "moraine/trie.reference") Tryd.t127.methods).map (fun m => (m.path, m.func)) = some (#[{ struct := 143, index := 0, deref := true }], some (137, false)) := by kernel_rfl
  obtain ⟨m, hm, he⟩ := Option.map_eq_some_iff.1 h
  simp only [Prod.mk.injEq] at he
  obtain ⟨hp, hf⟩ := he
  have hfo : Sem.run Tryd.prog (follow [] 135 (Place.var ⟨b, 0, none⟩)) w = .ok (135, Place.var ⟨b, 0, none⟩) w := by kernel_rfl
  unfold Go.method
  go_simp
  unfold follow receiverAt
  go_simp
  unfold Place.get
  go_simp
set_option maxRecDepth 20000 in
theorem meth_stem (w : World) (b : Nat) {r0 r1 r2 : Value} (c0 : w.cell? ⟨b, 0, none⟩ = some r0) (c1 : w.cell? ⟨b, 1, none⟩ = some r1) (c2 : w.cell? ⟨b, 2, none⟩ = some r2) : Sem.run Tryd.prog (Go.method 297 129 (.pointer (some ⟨b, 0, none⟩)) "moraine/trie.reference") w = .ok (137, .agg #[r0, r1, r2]) w := by
  have h : (Array.find? (fun x => x.name == "moraine/trie.reference") Tryd.t129.methods).map (fun m => (m.path, m.func)) = some (#[{ struct := 137, index := 0, deref := true }], some (137, false)) := by kernel_rfl
  obtain ⟨m, hm, he⟩ := Option.map_eq_some_iff.1 h
  simp only [Prod.mk.injEq] at he
  obtain ⟨hp, hf⟩ := he
  have hfo : Sem.run Tryd.prog (follow [] 135 (Place.var ⟨b, 0, none⟩)) w = .ok (135, Place.var ⟨b, 0, none⟩) w := by kernel_rfl
  unfold Go.method
  go_simp
  unfold follow receiverAt
  go_simp
  unfold Place.get
  go_simp
set_option maxRecDepth 20000 in
theorem meth_fork (w : World) (b : Nat) {r0 r1 r2 : Value} (c0 : w.cell? ⟨b, 0, none⟩ = some r0) (c1 : w.cell? ⟨b, 1, none⟩ = some r1) (c2 : w.cell? ⟨b, 2, none⟩ = some r2) : Sem.run Tryd.prog (Go.method 297 131 (.pointer (some ⟨b, 0, none⟩)) "moraine/trie.reference") w = .ok (137, .agg #[r0, r1, r2]) w := by
  have h : (Array.find? (fun x => x.name == "moraine/trie.reference") Tryd.t131.methods).map (fun m => (m.path, m.func)) = some (#[{ struct := 140, index := 0, deref := true }], some (137, false)) := by kernel_rfl
  obtain ⟨m, hm, he⟩ := Option.map_eq_some_iff.1 h
  simp only [Prod.mk.injEq] at he
  obtain ⟨hp, hf⟩ := he
  have hfo : Sem.run Tryd.prog (follow [] 135 (Place.var ⟨b, 0, none⟩)) w = .ok (135, Place.var ⟨b, 0, none⟩) w := by kernel_rfl
  unfold Go.method
  go_simp
  unfold follow receiverAt
  go_simp
  unfold Place.get
  go_simp
set_option maxRecDepth 20000 in
theorem meth_far (w : World) (x : Value) : Sem.run Tryd.prog (Go.method 297 111 x "moraine/trie.reference") w = .ok (109, x) w := by
  have h : (Array.find? (fun x => x.name == "moraine/trie.reference") Tryd.t111.methods).map (fun m => (m.path, m.func)) = some (#[], some (109, false)) := by kernel_rfl
  obtain ⟨m, hm, he⟩ := Option.map_eq_some_iff.1 h
  simp only [Prod.mk.injEq] at he
  obtain ⟨hp, hf⟩ := he
  unfold Go.method
  go_simp
  unfold follow receiverAt
  go_simp
  unfold Place.get
  go_simp
set_option maxRecDepth 20000 in
theorem sealedRef_c (w : World) {l : Bool} {a1 a2 : Option Addr} {n1 c1 n2 c2 : Nat} :
    Calls Tryd.prog 137 #[.agg #[.bool l, .slice a1 n1 c1, .slice a2 n2 c2]] w fun e w' => e = .returned (.agg #[.bool l, .slice a1 n1 c1, .slice a2 n2 c2]) ∧ Fr [] w w' := by
  go_enter Tryd.func137, Tryd.ntmps137
  go_wp2_with fail
  have hb : ((w.alloc (Obj.cells #[Value.bool l, Value.slice a1 n1 c1, Value.slice a2 n2 c2] 135)).alloc (Obj.cells #[Value.bool l, Value.slice a1 n1 c1, Value.slice a2 n2 c2] 85)).heap[w.heap.size + 1]? = some (.cells #[Value.bool l, Value.slice a1 n1 c1, Value.slice a2 n2 c2] 85 (0, 0)) := new_at _ _ (by simp)
  refine bodyPost_ret (ret_cI rfl rfl (load_it hb)) rfl ?_
  exact ⟨rfl, ((Fr.refl _ _).alloc _).alloc _⟩
theorem strL32 {h : List Nat} (hl : h.length = 32) : (strL h).length = 33 := by
  unfold strL headL
  rw [if_neg (by omega), if_pos (by omega), List.length_append]
  simp [hl]
/-- The reference of a node that isn't far, as it is asked for: what the method is handed, and tells. -/
theorem NdV.meth {S : Nat → Prop} {w : World} {n : Nd} {v : Value} (h : NdV S w n v) (hn : n ≠ .nil) (hf : ∀ x, n ≠ .far x) : ∃ T x l a1 n1 c1 a2 n2 c2, v = .iface T x ∧ (∀ w', Agr S w w' → Sem.run Tryd.prog (Go.method 297 T x "moraine/trie.reference") w' = .ok (137, .agg #[.bool l, .slice a1 n1 c1, .slice a2 n2 c2]) w') ∧ RfS S w (.agg #[.bool l, .slice a1 n1 c1, .slice a2 n2 c2]) (refE n) (slN n) := by
  cases n with
  | nil => exact absurd rfl hn
  | far h' => exact absurd rfl (hf h')
  | leaf p x =>
    obtain ⟨b, r0, r1, r2, pv, vv, rfl, hb, h1, _, _, h4⟩ := h
    obtain ⟨l, a1, n1, c1, a2, n2, c2, e⟩ := h4.agg
    simp only [Value.agg.injEq, Array.mk.injEq, List.cons.injEq, and_true] at e
    obtain ⟨rfl, rfl, rfl⟩ := e
    refine ⟨_, _, l, a1, n1, c1, a2, n2, c2, rfl, fun w' ha => ?_, h4⟩
    have g := h1
    rw [← ha b hb] at g
    exact meth_leaf w' b (by simpa using blk_cell g 0) (by simpa using blk_cell g 1) (by simpa using blk_cell g 2)
  | stem p t =>
    obtain ⟨b, r0, r1, r2, pv, bl, rfl, hb, h1, _, _, h4⟩ := h
    obtain ⟨l, a1, n1, c1, a2, n2, c2, e⟩ := h4.agg
    simp only [Value.agg.injEq, Array.mk.injEq, List.cons.injEq, and_true] at e
    obtain ⟨rfl, rfl, rfl⟩ := e
    refine ⟨_, _, l, a1, n1, c1, a2, n2, c2, rfl, fun w' ha => ?_, h4⟩
    have g := h1
    rw [← ha b hb] at g
    exact meth_stem w' b (by simpa using blk_cell g 0) (by simpa using blk_cell g 1) (by simpa using blk_cell g 2)
  | fork c x =>
    obtain ⟨b, r0, r1, r2, V, vv, rfl, hb, h1, _, _, h4⟩ := h
    obtain ⟨l, a1, n1, c1, a2, n2, c2, e⟩ := h4.agg
    simp only [Value.agg.injEq, Array.mk.injEq, List.cons.injEq, and_true] at e
    obtain ⟨rfl, rfl, rfl⟩ := e
    refine ⟨_, _, l, a1, n1, c1, a2, n2, c2, rfl, fun w' ha => ?_, h4⟩
    have g := h1
    rw [← ha b hb] at g
    exact meth_fork w' b (by simpa using blk_cell g 0) (by simpa using blk_cell g 1) (by simpa using blk_cell g 2)
end Go.Proofs.YtdcocgjlfhicaaaDoor
namespace Go.Proofs.YtdcocgjlfhicaaaDoor
open Go.ChangeShapes Go.WideShapes Go.ChangeAt Go.RowKit

theorem asStem_y (w : World) (b : Nat) : (Instr.typeAssert (.iface 129 (.pointer (some ⟨b, 0, none⟩))) 87 129 true).run Tryd.prog w = .ok (.tuple #[.pointer (some ⟨b, 0, none⟩), .bool true]) w := by
  kernel_rfl
theorem asLeaf_f (w : World) (b : Nat) : (Instr.typeAssert (.iface 131 (.pointer (some ⟨b, 0, none⟩))) 87 127 true).run Tryd.prog w = .ok (.tuple #[.pointer none, .bool false]) w := by
  kernel_rfl
theorem asStem_f (w : World) (b : Nat) : (Instr.typeAssert (.iface 131 (.pointer (some ⟨b, 0, none⟩))) 87 129 true).run Tryd.prog w = .ok (.tuple #[.pointer none, .bool false]) w := by
  kernel_rfl
theorem asFork_y (w : World) (b : Nat) : (Instr.typeAssert (.iface 131 (.pointer (some ⟨b, 0, none⟩))) 87 131 true).run Tryd.prog w = .ok (.tuple #[.pointer (some ⟨b, 0, none⟩), .bool true]) w := by
  kernel_rfl
set_option maxRecDepth 20000 in
set_option maxHeartbeats 1600000 in
theorem itemStem_c (w : World) {S : Nat → Prop} (hi : InS S w) {b : Nat} {T0 : TypeId} {q0 q1 q2 pv bl : Value} (hB : w.heap[b]? = some (.cells #[q0, q1, q2, pv, bl] T0 (0, 0))) {p : List Nat} {t : Nd} (hp : Un S w (fun w' => Rd w' pv (bv p))) (hok : okP p = true) (hv : NdV S w t bl) (hn : t ≠ .nil) (hf : ∀ x, t ≠ .far x) :
    Calls Tryd.prog 54 #[.iface 129 (.pointer (some ⟨b, 0, none⟩))] w fun e w' => ∃ iv d, e = .returned (.tuple #[iv, .int .i64 0]) ∧ 9 * d ≤ (refE t).length + slN t ∧ 1 ≤ d ∧ Un (Up S w w') w' (fun w'' => ItV 21 w'' iv (lstF (strL (packF p false) ++ refE t)) (d + 1) ((refE t).length + 2)) ∧ (∃ l a1 n1 c1 a2 n2 c2, iv = .agg #[.bool l, .slice a1 n1 c1, .slice a2 n2 c2]) ∧ Fr [] w w' := by
  obtain ⟨pa, pc, e1⟩ := hp.now.form
  rw [bv_len] at e1
  subst e1
  obtain ⟨np, hnp⟩ : ∃ np, np = p.length := ⟨_, rfl⟩
  rw [← hnp] at hp hB
  obtain ⟨T, x, l, b1, m1, d1, b2, m2, d2, rfl, hm, d, hd, hd1, hI⟩ := hv.meth hn hf
  have c3 := blk_cell hB 3
  have c4 := blk_cell hB 4
  simp at c3 c4
  obtain ⟨W, hW⟩ : ∃ W, W = w.alloc (.cells #[.bool false, .slice none 0 0, .slice none 0 0] 85) := ⟨_, rfl⟩
  have F : Hid (Fr [] w W) := hid (by rw [hW]; exact (Fr.refl _ w).alloc _)
  have Y : Hid (W.heap[w.heap.size]? = some (.cells #[.bool false, .slice none 0 0, .slice none 0 0] 85 (0, 0))) := hid (by rw [hW]; exact blk_new _ _)
  have PC : Hid (∀ W', Fr [] w W' → Calls Tryd.prog 75 #[.slice pa np pc, .bool false, .agg #[.bool l, .slice b1 m1 d1, .slice b2 m2 d2]] W' fun e w' => ∃ iv, e = .returned (.tuple #[iv, .int .i64 0]) ∧ (∀ w'', (∀ k, W'.heap.size ≤ k → k < w'.heap.size → w''.heap[k]? = w'.heap[k]?) → Agr S w w'' → ItV 21 w'' iv (lstF (strL (packF p false) ++ refE t)) (d + 1) ((refE t).length + 2)) ∧ (∃ l a1 n1 c1 a2 n2 c2, iv = .agg #[.bool l, .slice a1 n1 c1, .slice a2 n2 c2]) ∧ Fr [] W' w') := hid (fun W' f => (pair_c W' (hp _ (hi.agr f)) false hok (hI _ (hi.agr f)) hd1).mono (by
    rintro e w' ⟨iv, rfl, q1, q2, q3⟩
    exact ⟨iv, rfl, fun w'' h1 h2 => q1 w'' h1 (hI _ h2), q2, q3⟩))
  have MC : Hid (∀ W', Fr [] w W' → Sem.run Tryd.prog (Go.method 297 T x "moraine/trie.reference") W' = .ok (137, .agg #[.bool l, .slice b1 m1 d1, .slice b2 m2 d2]) W') := hid fun W' f => hm W' (hi.agr f)
  have SK : Hid (∀ w', Fr [] w w' → w'.cell? ⟨b, 3, none⟩ = some (.slice pa np pc) ∧ w'.cell? ⟨b, 4, none⟩ = some (.iface T x)) := hid fun w' f => ⟨cell_fr c3 f, cell_fr c4 f⟩
  have YD : Hid (W.drew.heap[w.heap.size]? = some (.cells #[.bool false, .slice none 0 0, .slice none 0 0] 85 (0, 0))) := hid (by rw [blk_drew]; exact Y.out)
  have HI0 := hid hi
  have HD := hid hd
  have HD1 := hid hd1
  clear hp hv hB c3 c4 hnp hok hm hI hi hd hd1 hn hf
  go_enter Tryd.func54, Tryd.ntmps54
  go_upto_region 1 with fail
  rw [← hW]
  clear hW
  have ta := asLeaf_s W b
  have tb := asStem_y W b
  go_upto_region 7 with fail
  clear ta tb
  refine wp_region_held_drew (S := fun w' => w'.cell? ⟨b, 3, none⟩ = some (.slice pa np pc) ∧ w'.cell? ⟨b, 4, none⟩ = some (.iface T x)) (by kernel_rfl) (SK.out _ F.out.drew) (fun hS => ?_)
  refine wpAnyH_take (i := 0) (v := .pointer (some ⟨b, 0, none⟩)) rfl (by kernel_rfl) (by kernel_rfl) (by kernel_rfl) (fun _ _ _ h => h) (.inl ⟨by rfl, fun wx _ => by go_simp⟩) hS ?_
  simp only [Act.put]
  refine wpAnyH_take (i := 1) (v := .pointer (some ⟨b, 0, none⟩)) rfl (by kernel_rfl) (by kernel_rfl) (by kernel_rfl) (fun _ _ _ h => h) (.inl ⟨by rfl, fun wx _ => by go_simp⟩) hS ?_
  simp only [Act.put]
  refine wpAnyH_take (i := 2) (v := .pointer (some ⟨b, 3, none⟩)) rfl (by kernel_rfl) (by kernel_rfl) (by kernel_rfl) (fun _ _ _ h => h) (.inl ⟨by rfl, fun wx _ => by go_simp⟩) hS ?_
  simp only [Act.put]
  refine wpAnyH_take (i := 3) (v := .slice pa np pc) rfl (by kernel_rfl) (by kernel_rfl) (by kernel_rfl) (fun _ _ _ h => h) (.inl ⟨by rfl, fun wx hX => by obtain ⟨x0, x1⟩ := hX; go_simp⟩) hS ?_
  simp only [Act.put]
  refine wpAnyH_take (i := 4) (v := .pointer (some ⟨b, 0, none⟩)) rfl (by kernel_rfl) (by kernel_rfl) (by kernel_rfl) (fun _ _ _ h => h) (.inl ⟨by rfl, fun wx _ => by go_simp⟩) hS ?_
  simp only [Act.put]
  refine wpAnyH_take (i := 5) (v := .pointer (some ⟨b, 0, none⟩)) rfl (by kernel_rfl) (by kernel_rfl) (by kernel_rfl) (fun _ _ _ h => h) (.inl ⟨by rfl, fun wx _ => by go_simp⟩) hS ?_
  simp only [Act.put]
  refine wpAnyH_take (i := 6) (v := .pointer (some ⟨b, 4, none⟩)) rfl (by kernel_rfl) (by kernel_rfl) (by kernel_rfl) (fun _ _ _ h => h) (.inl ⟨by rfl, fun wx _ => by go_simp⟩) hS ?_
  simp only [Act.put]
  refine wpAnyH_take (i := 7) (v := .iface T x) rfl (by kernel_rfl) (by kernel_rfl) (by kernel_rfl) (fun _ _ _ h => h) (.inl ⟨by rfl, fun wx hX => by obtain ⟨x0, x1⟩ := hX; go_simp⟩) hS ?_
  simp only [Act.put]
  clear hS
  refine wpAnyH_ready (rs := [8]) (by kernel_rfl) (by simp) ?_
  refine AllReadyH.cons rfl (fun K hK => ?_) AllReadyH.nil
  have mL := MC.out _ F.out.drew
  go_simp
  clear mL
  go_at_call 137
  refine (sealedRef_c _).mono ?_
  rintro e w1 ⟨rfl, f1⟩
  have F1 := hid (F.out.drew.trans f1)
  have Y1 := hid (blk_frT YD.out f1)
  clear f1
  go_simp
  have hS1 := SK.out _ F1.out
  refine hK.out _ _ hS1 (fun _ => ?_)
  clear hK K hS1
  refine wpAnyH_ready (rs := [9]) (by kernel_rfl) (by simp) ?_
  refine AllReadyH.cons rfl (fun K hK => ?_) AllReadyH.nil
  go_simp
  go_at_call 75
  refine (PC.out _ F1.out).mono ?_
  rintro e w2 ⟨iv, rfl, hI, ⟨l1, a1, n1, c1, a2, n2, c2, rfl⟩, f2⟩
  have HI := hid hI
  have F2 := hid (F1.out.trans f2)
  have Y2 := hid (blk_frT Y1.out f2)
  clear hI f2
  go_simp
  have hS2 := SK.out _ F2.out
  refine hK.out _ _ hS2 (fun _ => ?_)
  clear hK K
  refine wpAnyH_take (i := 10) (v := .agg #[.bool l1, .slice a1 n1 c1, .slice a2 n2 c2]) rfl (by kernel_rfl) (by kernel_rfl) (by kernel_rfl) (fun _ _ _ h => h) (.inl ⟨by rfl, fun wx _ => by go_simp⟩) hS2 ?_
  simp only [Act.put]
  refine wpAnyH_take (i := 11) (v := .int .i64 0) rfl (by kernel_rfl) (by kernel_rfl) (by kernel_rfl) (fun _ _ _ h => h) (.inl ⟨by rfl, fun wx _ => by go_simp⟩) hS2 ?_
  simp only [Act.put, List.getElem_toArray, List.getElem_cons_succ, List.getElem_cons_zero]
  clear hS2
  have FT := hid (((F2.out.set (p := w.heap.size) 0 (.bool l1) (.inr (Nat.le_refl _))).set (p := w.heap.size) 1 (.slice a1 n1 c1) (.inr (Nat.le_refl _))).set (p := w.heap.size) 2 (.slice a2 n2 c2) (.inr (Nat.le_refl _)))
  have T3 := hid (three_set (u := .bool l1) (v := .slice a1 n1 c1) (t := .slice a2 n2 c2) Y2.out)
  have FI : Hid (Fr [w.heap.size] w2 (((w2.setCell ⟨w.heap.size, 0, none⟩ (.bool l1)).setCell ⟨w.heap.size, 1, none⟩ (.slice a1 n1 c1)).setCell ⟨w.heap.size, 2, none⟩ (.slice a2 n2 c2))) := hid ((((Fr.refl _ _).set _ _ (.inl (by simp))).set _ _ (.inl (by simp))).set _ _ (.inl (by simp)))
  refine wpAnyH_ready (rs := [12]) (by kernel_rfl) (by simp) ?_
  refine AllReadyH.cons rfl (fun K hK => ?_) AllReadyH.nil
  refine step_store3 (l := l1) (a0 := a1) (n0 := n1) (c0 := c1) (a1 := a2) (n1 := n2) (c1 := c2) rfl rfl (.tmp 2) (.tmp 39) rfl Y2.out (by simp [Act.eval]) (by simp [Act.eval]) ?_
  refine hK.out _ _ (SK.out _ FT.out) (fun hS3 => ?_)
  clear hK K
  refine wpAnyH_take (i := 13) (v := .int .i64 0) rfl (by kernel_rfl) (by kernel_rfl) (by kernel_rfl) (fun _ _ _ h => h) (.inl ⟨by rfl, fun wx _ => by go_simp⟩) hS3 ?_
  simp only [Act.put, List.getElem_toArray, List.getElem_cons_succ, List.getElem_cons_zero]
  refine wpAnyH_done (by kernel_rfl) ?_ _
  clear hS3
  go_wp2
  refine bodyPost_ret (v := .tuple #[.agg #[.bool l1, .slice a1 n1 c1, .slice a2 n2 c2], .int .i64 0]) (ret_ctU (p := 2) (u := 3) rfl (by kernel_rfl) (by kernel_rfl) (load_it T3.out)) rfl ?_
  refine ⟨_, d, rfl, HD.out, HD1.out, fun w'' ha => HI.out w'' (fun k h1 h2 => ?_) (((HI0.out.agr FT.out).trans (ha.sub fun k hk => Up.old hk))), ⟨_, _, _, _, _, _, _, rfl⟩, FT.out⟩
  have hne : k ≠ w.heap.size := by have := (Array.getElem?_eq_some_iff.1 Y1.out).1; omega
  rw [ha k (.inr ⟨by have := F1.out.size; omega, Nat.lt_of_lt_of_le h2 FI.out.size⟩), blk_setne _ _ _ hne, blk_setne _ _ _ hne, blk_setne _ _ _ hne]
end Go.Proofs.YtdcocgjlfhicaaaDoor
