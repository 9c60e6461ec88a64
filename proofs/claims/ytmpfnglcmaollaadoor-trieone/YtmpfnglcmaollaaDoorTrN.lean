/-
  A fork's item.
-/
import Derived.Test.YtmpfnglcmaollaaDoorJ14
namespace Go.Proofs.YtmpfnglcmaollaaDoor
open Go.ChangeShapes Go.WideShapes Go.ChangeAt Go.RowKit

theorem infoIt : (Tryd.prog.info? 77).map (fun i => (i.zero, i.size, i.bytes)) = some (some (.agg #[.bool false, .slice none 0 0, .slice none 0 0]), 3, 56) := by kernel_rfl
theorem makeIt_run (w : World) : (Instr.makeSlice 75 (.int .i64 17) (.int .i64 17)).run Tryd.prog w = .ok (.slice (some ⟨w.heap.size, 0, none⟩) 17 17) (w.alloc (.cells (madeCells #[.bool false, .slice none 0 0, .slice none 0 0] 51) 77)) := by
  obtain ⟨i0, hi, hz0, hz1, hz2⟩ := info_parts infoIt
  have h := run_make (P := Tryd.prog) w 75 77 i0 (.agg #[.bool false, .slice none 0 0, .slice none 0 0]) Tryd.underlying75 hi hz0 .i64 .i64 17 17 (by omega) (by omega) (by rw [hz2]; omega) (by omega)
  simpa [hz1, Value.cells] using h
theorem ItV.many {m : Nat} {w : World} {g : Nat} {T : TypeId} {cs : Array Value} {N : Nat} {x : Nat → List Nat} {D : Nat} (h : w.heap[g]? = some (.cells cs T (0, 0))) (hj : ∀ j, j < N → ∃ l b i c, cs[j * 3]? = some (.bool l) ∧ cs[j * 3 + 1]? = some b ∧ cs[j * 3 + 2]? = some i ∧ ItV (m + 1) w (.agg #[.bool l, b, i]) (x j) D c) (hN : N ≤ 1000) :
    ItV (m + 2) w (.agg #[.bool true, .slice none 0 0, .slice (some ⟨g, 0, none⟩) N N]) (lstF ((List.range N).flatMap x)) (D + 1) (lstF ((List.range N).flatMap x)).length := by
  have h1 : ∀ j, ∃ t : Tr (m + 1), j < N → (∃ l b i, cs[j * 3]? = some (.bool l) ∧ cs[j * 3 + 1]? = some b ∧ cs[j * 3 + 2]? = some i ∧ IsV w (m + 1) (.agg #[.bool l, b, i]) t) ∧ enc (m + 1) t = x j ∧ byT (m + 1) t ∧ okT (m + 1) t ∧ hgt (m + 1) t D := fun j => by
    by_cases hjn : j < N
    · obtain ⟨l, b, i, c, c0, c1, c2, t, g1, g2, g3, g4, g5, _⟩ := hj j hjn
      exact ⟨t, fun _ => ⟨⟨l, b, i, c0, c1, c2, g1⟩, g2, g3, g4, g5⟩⟩
    · exact ⟨mkT false [] [], fun h => absurd h hjn⟩
  obtain ⟨f, hf⟩ := Classical.axiomOfChoice h1
  have hm : ∀ t ∈ (List.range N).map f, ∃ j, j < N ∧ f j = t := fun t ht => by
    obtain ⟨j, h2, h3⟩ := List.mem_map.1 ht
    exact ⟨j, List.mem_range.1 h2, h3⟩
  have he : ((List.range N).map f).flatMap (enc (m + 1)) = (List.range N).flatMap x := by
    rw [List.flatMap_map]
    have : ∀ (l : List Nat), (∀ j ∈ l, j < N) → l.flatMap (fun j => enc (m + 1) (f j)) = l.flatMap x := by
      intro l
      induction l with
      | nil => intro _; rfl
      | cons j l ih =>
        intro hl
        simp only [List.flatMap_cons]
        rw [(hf j (hl j (by simp))).2.1, ih (fun k hk => hl k (by simp [hk]))]
    exact this _ (fun j h2 => List.mem_range.1 h2)
  refine ItV.len (c := cnt (m + 2) (mkT true [] ((List.range N).map f))) ⟨mkT true [] ((List.range N).map f), ⟨.slice none 0 0, some ⟨g, 0, none⟩, N, by simp [tL_mk, tK_mk], .inl ⟨rfl, rfl⟩, fun y hy => by simp [tB_mk] at hy, by simp [tB_mk], by simp [tK_mk], by simp [tK_mk]; omega, fun _ => ⟨g, 0, rfl, fun j k hj => ?_⟩⟩, ?_, ⟨fun y hy => by simp [tB_mk] at hy, fun k hk => ?_⟩, ⟨.inl ⟨rfl, rfl⟩, fun k hk => ?_⟩, fun k hk => ?_, Nat.le_refl _⟩
  · rw [tK_mk, List.getElem?_map] at hj
    cases hr : (List.range N)[j]? with
    | none => rw [hr] at hj; cases hj
    | some j' =>
      rw [hr] at hj
      simp at hj
      have hjn : j < N := by
        have := List.getElem?_eq_some_iff.1 hr
        obtain ⟨h2, _⟩ := this
        simpa using h2
      have hjj : j' = j := by
        rw [List.getElem?_range hjn] at hr
        simp at hr
        exact hr.symm
      subst hjj
      subst hj
      obtain ⟨⟨l, b, i, c0, c1, c2, g1⟩, _⟩ := hf j' hjn
      refine ⟨l, b, i, ?_, ?_, ?_, g1⟩
      · rw [Nat.zero_add, blk_cell h]; exact c0
      · rw [Nat.zero_add, blk_cell h]; exact c1
      · rw [Nat.zero_add, blk_cell h]; exact c2
  · show headL 192 (((List.range N).map f).flatMap (enc (m + 1))).length ++ ((List.range N).map f).flatMap (enc (m + 1)) = _
    rw [he]
    rfl
  · rw [tK_mk] at hk
    obtain ⟨j, h2, rfl⟩ := hm k hk
    exact (hf j h2).2.2.1
  · rw [tK_mk] at hk
    obtain ⟨j, h2, rfl⟩ := hm k hk
    exact (hf j h2).2.2.2.1
  · rw [tK_mk] at hk
    obtain ⟨j, h2, rfl⟩ := hm k hk
    exact (hf j h2).2.2.2.2
/-- A fork's items while they are laid. -/
structure ItI (S : Nat → Prop) (w wr : World) (g : Nat) (X : Nat → List Nat) (cs : Array Value) : Prop where
  sz : cs.size = 51
  hg : wr.heap[g]? = some (.cells cs 77 (0, 0))
  it : ∀ j, j < 16 → ∃ l a1 n1 c1 a2 n2 c2, cs[j * 3]? = some (.bool l) ∧ cs[j * 3 + 1]? = some (.slice a1 n1 c1) ∧ cs[j * 3 + 2]? = some (.slice a2 n2 c2) ∧ RfS S w (.agg #[.bool l, .slice a1 n1 c1, .slice a2 n2 c2]) (X j) 15
  l0 : cs[48]? = some (.bool false)
  l2 : cs[50]? = some (.slice none 0 0)
  fr : Fr [] w wr
theorem RfS.zero (S : Nat → Prop) (w : World) : RfS S w (.agg #[.bool false, .slice none 0 0, .slice none 0 0]) (strL []) 15 := ⟨1, by have := (strL_len []).2.2; omega, Nat.le_refl _, fun w' _ => (ItV.str (n := 19) (w := w') (b := []) (.inl ⟨rfl, rfl⟩) (fun x hx => by cases hx) (by simp)).len⟩
theorem made_at (z : Array Value) (n i : Nat) (h : i < n) : (madeCells z n)[i]? = some (z[i % z.size]!) := by
  unfold madeCells
  rw [Array.getElem?_map, Array.getElem?_range, if_pos h]
  rfl
theorem ItI.start {S : Nat → Prop} {w W : World} {g : Nat} (h : W.heap[g]? = some (.cells (madeCells #[.bool false, .slice none 0 0, .slice none 0 0] 51) 77 (0, 0))) (f : Fr [] w W) : ItI S w W g (fun _ => strL []) (madeCells #[.bool false, .slice none 0 0, .slice none 0 0] 51) := by
  have e0 : ∀ j, (j * 3) % 3 = 0 := fun j => by omega
  have e1 : ∀ j, (j * 3 + 1) % 3 = 1 := fun j => by omega
  have e2 : ∀ j, (j * 3 + 2) % 3 = 2 := fun j => by omega
  refine ⟨size_madeCells _ _, h, fun j hj => ⟨false, none, 0, 0, none, 0, 0, ?_, ?_, ?_, RfS.zero S w⟩, ?_, ?_, f⟩
  · rw [made_at _ _ _ (by omega), show (#[Value.bool false, .slice none 0 0, .slice none 0 0] : Array Value).size = 3 from rfl, e0]; rfl
  · rw [made_at _ _ _ (by omega), show (#[Value.bool false, .slice none 0 0, .slice none 0 0] : Array Value).size = 3 from rfl, e1]; rfl
  · rw [made_at _ _ _ (by omega), show (#[Value.bool false, .slice none 0 0, .slice none 0 0] : Array Value).size = 3 from rfl, e2]; rfl
  · rw [made_at _ _ _ (by omega)]; rfl
  · rw [made_at _ _ _ (by omega)]; rfl
theorem ItI.quiet {S : Nat → Prop} {w wr w' : World} {g : Nat} {X : Nat → List Nat} {cs : Array Value} (h : ItI S w wr g X cs) (f : Fr [] wr w') : ItI S w w' g X cs := ⟨h.sz, f.at h.hg (by simp), h.it, h.l0, h.l2, h.fr.trans f⟩
theorem ItI.put {S : Nat → Prop} {w wr : World} {g : Nat} {X : Nat → List Nat} {cs : Array Value} (h : ItI S w wr g X cs) (hg : w.heap.size ≤ g) {i : Nat} (hi : i < 16) {l : Bool} {a1 a2 : Option Addr} {n1 c1 n2 c2 : Nat} {x : List Nat} (hr : RfS S w (.agg #[.bool l, .slice a1 n1 c1, .slice a2 n2 c2]) x 15) :
    ItI S w (((wr.setCell ⟨g, i * 3, none⟩ (.bool l)).setCell ⟨g, i * 3 + 1, none⟩ (.slice a1 n1 c1)).setCell ⟨g, i * 3 + 2, none⟩ (.slice a2 n2 c2)) g (fun j => if j = i then x else X j) (((cs.setIfInBounds (i * 3) (.bool l)).setIfInBounds (i * 3 + 1) (.slice a1 n1 c1)).setIfInBounds (i * 3 + 2) (.slice a2 n2 c2)) := by
  have hsz := h.sz
  refine ⟨by simp [hsz], by rw [blk_set (blk_set (blk_set h.hg _ _) _ _)], fun j hj => ?_, ?_, ?_, ((h.fr.set _ _ (.inr hg)).set _ _ (.inr hg)).set _ _ (.inr hg)⟩
  · by_cases hji : j = i
    · subst hji
      refine ⟨l, a1, n1, c1, a2, n2, c2, ?_, ?_, ?_, by simpa using hr⟩
      · rw [Array.getElem?_setIfInBounds_ne (by omega), Array.getElem?_setIfInBounds_ne (by omega), Array.getElem?_setIfInBounds_self_of_lt (by omega)]
      · rw [Array.getElem?_setIfInBounds_ne (by omega), Array.getElem?_setIfInBounds_self_of_lt (by simp; omega)]
      · rw [Array.getElem?_setIfInBounds_self_of_lt (by simp; omega)]
    · obtain ⟨l', a1', n1', c1', a2', n2', c2', e0, e1, e2, e3⟩ := h.it j hj
      refine ⟨l', a1', n1', c1', a2', n2', c2', ?_, ?_, ?_, by simpa [hji] using e3⟩
      · rw [Array.getElem?_setIfInBounds_ne (by omega), Array.getElem?_setIfInBounds_ne (by omega), Array.getElem?_setIfInBounds_ne (by omega)]; exact e0
      · rw [Array.getElem?_setIfInBounds_ne (by omega), Array.getElem?_setIfInBounds_ne (by omega), Array.getElem?_setIfInBounds_ne (by omega)]; exact e1
      · rw [Array.getElem?_setIfInBounds_ne (by omega), Array.getElem?_setIfInBounds_ne (by omega), Array.getElem?_setIfInBounds_ne (by omega)]; exact e2
  · rw [Array.getElem?_setIfInBounds_ne (by omega), Array.getElem?_setIfInBounds_ne (by omega), Array.getElem?_setIfInBounds_ne (by omega)]; exact h.l0
  · rw [Array.getElem?_setIfInBounds_ne (by omega), Array.getElem?_setIfInBounds_ne (by omega), Array.getElem?_setIfInBounds_ne (by omega)]; exact h.l2
theorem cellsV {w : World} {b : Nat} {T : TypeId} {q0 q1 q2 vv : Value} {V : Nat → Value} (h : w.heap[b]? = some (.cells #[q0, q1, q2, V 0, V 1, V 2, V 3, V 4, V 5, V 6, V 7, V 8, V 9, V 10, V 11, V 12, V 13, V 14, V 15, vv] T (0, 0))) : (w.cell? ⟨b, 3, none⟩ = some (V 0) ∧ w.cell? ⟨b, 4, none⟩ = some (V 1) ∧ w.cell? ⟨b, 5, none⟩ = some (V 2) ∧ w.cell? ⟨b, 6, none⟩ = some (V 3) ∧ w.cell? ⟨b, 7, none⟩ = some (V 4) ∧ w.cell? ⟨b, 8, none⟩ = some (V 5) ∧ w.cell? ⟨b, 9, none⟩ = some (V 6) ∧ w.cell? ⟨b, 10, none⟩ = some (V 7) ∧ w.cell? ⟨b, 11, none⟩ = some (V 8) ∧ w.cell? ⟨b, 12, none⟩ = some (V 9) ∧ w.cell? ⟨b, 13, none⟩ = some (V 10) ∧ w.cell? ⟨b, 14, none⟩ = some (V 11) ∧ w.cell? ⟨b, 15, none⟩ = some (V 12) ∧ w.cell? ⟨b, 16, none⟩ = some (V 13) ∧ w.cell? ⟨b, 17, none⟩ = some (V 14) ∧ w.cell? ⟨b, 18, none⟩ = some (V 15)) ∧ w.cell? ⟨b, 19, none⟩ = some vv :=
  ⟨⟨blk_cell h 3, blk_cell h 4, blk_cell h 5, blk_cell h 6, blk_cell h 7, blk_cell h 8, blk_cell h 9, blk_cell h 10, blk_cell h 11, blk_cell h 12, blk_cell h 13, blk_cell h 14, blk_cell h 15, blk_cell h 16, blk_cell h 17, blk_cell h 18⟩, blk_cell h 19⟩
theorem idxV (V : Nat → Value) {i : Nat} (hi : i < 16) (w : World) : (Instr.index 127 (.agg #[V 0, V 1, V 2, V 3, V 4, V 5, V 6, V 7, V 8, V 9, V 10, V 11, V 12, V 13, V 14, V 15]) (.int .i64 (i : Int))).run Tryd.prog w = .ok (V i) w := by
  rcases i with _ | _ | _ | _ | _ | _ | _ | _ | _ | _ | _ | _ | _ | _ | _ | _ | i
  all_goals first | omega | kernel_rfl
theorem flat_len (f : Nat → List Nat) : ∀ (l : List Nat), (∀ j ∈ l, 1 ≤ (f j).length) → l.length ≤ (l.flatMap f).length ∧ ∀ j ∈ l, (f j).length + l.length ≤ (l.flatMap f).length + 1
  | [], _ => ⟨Nat.le_refl _, fun j hj => by cases hj⟩
  | k :: l, h => by
    obtain ⟨h1, h2⟩ := flat_len f l (fun j hj => h j (by simp [hj]))
    have hk := h k (by simp)
    simp only [List.flatMap_cons, List.length_append, List.length_cons]
    refine ⟨by omega, fun j hj => ?_⟩
    rcases List.mem_cons.1 hj with rfl | hj
    · omega
    · have := h2 j hj
      omega
theorem flat17 (f : Nat → List Nat) (y : List Nat) : (List.range 17).flatMap (fun j => if j < 16 then f j else y) = (List.range 16).flatMap f ++ y := by
  rw [show List.range 17 = List.range 16 ++ [16] from rfl, List.flatMap_append]
  have h : ∀ (l : List Nat), (∀ j ∈ l, j < 16) → l.flatMap (fun j => if j < 16 then f j else y) = l.flatMap f := by
    intro l
    induction l with
    | nil => intro _; rfl
    | cons j l ih =>
      intro hl
      simp only [List.flatMap_cons]
      rw [if_pos (hl j (by simp)), ih (fun k hk => hl k (by simp [hk]))]
  rw [h _ (fun j hj => List.mem_range.1 hj)]
  simp
theorem lstF_len (x : List Nat) : x.length + 1 ≤ (lstF x).length ∧ (lstF x).length ≤ x.length + 9 := by
  unfold lstF
  rw [List.length_append]
  have := headL_len 192 x.length
  omega
theorem shtF_len (x : List Nat) (h : 1 ≤ x.length) : 1 ≤ (shtF x).length ∧ (shtF x).length ≤ 33 := by
  unfold shtF
  split
  · omega
  · rw [strL32 (hshF_len x)]; omega
theorem refE_len (n : Nd) (h : ∀ x, n ≠ .far x) : 1 ≤ (refE n).length ∧ (refE n).length ≤ 33 := by
  cases n with
  | nil => exact ⟨Nat.le_refl 1, by show 1 ≤ 33; omega⟩
  | far x => exact absurd rfl (h x)
  | leaf p v => exact shtF_len _ (by have := (lstF_len (strL (packF p true) ++ strL v)).1; omega)
  | stem p t => exact shtF_len _ (by have := (lstF_len (strL (packF p false) ++ refE t)).1; omega)
  | fork c v => exact shtF_len _ (by have := (lstF_len ((List.range 16).flatMap (fun i => refE (c i)) ++ strL v)).1; omega)
theorem RfS.pos {S : Nat → Prop} {w : World} {v : Value} {x : List Nat} {e : Nat} (h : RfS S w v x e) : 1 ≤ x.length := by
  obtain ⟨d, _, _, h3⟩ := h
  rcases h3.now.by (by omega) with h | h
  · exact h
  · cases h
theorem slN_le (n : Nd) : slN n ≤ 15 := by cases n <;> simp [slN]
theorem ItI.congr {S : Nat → Prop} {w wr : World} {g : Nat} {X X' : Nat → List Nat} {cs : Array Value} (h : ItI S w wr g X cs) (e : ∀ j, j < 16 → X j = X' j) : ItI S w wr g X' cs := ⟨h.sz, h.hg, fun j hj => by
  obtain ⟨l, a1, n1, c1, a2, n2, c2, e0, e1, e2, e3⟩ := h.it j hj
  exact ⟨l, a1, n1, c1, a2, n2, c2, e0, e1, e2, by rw [← e j hj]; exact e3⟩, h.l0, h.l2, h.fr⟩
set_option maxRecDepth 20000 in
set_option maxHeartbeats 1600000 in
theorem itemFork_c (w : World) {S : Nat → Prop} (hi : InS S w) {b : Nat} {T0 : TypeId} {q0 q1 q2 vv : Value} {V : Nat → Value} (hB : w.heap[b]? = some (.cells #[q0, q1, q2, V 0, V 1, V 2, V 3, V 4, V 5, V 6, V 7, V 8, V 9, V 10, V 11, V 12, V 13, V 14, V 15, vv] T0 (0, 0))) {c : Nat → Nd} {x : List Nat} (hc : ∀ i, i < 16 → NdV S w (c i) (V i)) (hf : ∀ i, i < 16 → ∀ y, c i ≠ .far y) (hv : Un S w (fun w' => Rd w' vv (bv x))) (hx : By x) (hxl : x.length ≤ 1024) :
    Calls Tryd.prog 48 #[.iface 126 (.pointer (some ⟨b, 0, none⟩))] w fun e w' => ∃ iv d, e = .returned (.tuple #[iv, .int .i64 0]) ∧ 9 * d ≤ (lstF ((List.range 16).flatMap (fun i => refE (c i)) ++ strL x)).length + 7 ∧ 1 ≤ d ∧ d ≤ 6 ∧ Un (Up S w w') w' (fun w'' => ItV 21 w'' iv (lstF ((List.range 16).flatMap (fun i => refE (c i)) ++ strL x)) d (lstF ((List.range 16).flatMap (fun i => refE (c i)) ++ strL x)).length) ∧ (∃ l a1 n1 c1 a2 n2 c2, iv = .agg #[.bool l, .slice a1 n1 c1, .slice a2 n2 c2]) ∧ Fr [] w w' := by
  obtain ⟨va, vc, e1⟩ := hv.now.form
  rw [bv_len] at e1
  subst e1
  obtain ⟨nx, hnx⟩ : ∃ nx, nx = x.length := ⟨_, rfl⟩
  rw [← hnx] at hv hB
  have HC := hid hc
  have HF := hid hf
  have HV := hid hv
  have HB := hid hB
  have HI := hid hi
  have HNX := hid hnx
  clear hc hf hv hB hi hnx
  obtain ⟨W, hW⟩ : ∃ W, W = w.alloc (.cells #[.bool false, .slice none 0 0, .slice none 0 0] 77) := ⟨_, rfl⟩
  have F : Hid (Fr [] w W) := hid (by rw [hW]; exact (Fr.refl _ w).alloc _)
  have Y : Hid (W.heap[w.heap.size]? = some (.cells #[.bool false, .slice none 0 0, .slice none 0 0] 77 (0, 0))) := hid (by rw [hW]; exact blk_new _ _)
  have hmk := makeIt_run W
  have HW1 : Hid (W.heap.size = w.heap.size + 1) := hid (by rw [hW]; simp)
  go_enter Tryd.func48, Tryd.ntmps48
  go_upto_region 1 with fail
  rw [← hW]
  clear hW
  have ta := asLeaf_f W b
  have tb := asStem_f W b
  have tc := asFork_y W b
  go_upto_region 11 with fail
  clear ta tb tc hmk
  obtain ⟨W1, hW1⟩ : ∃ W1, W1 = W.alloc (.cells (madeCells #[.bool false, .slice none 0 0, .slice none 0 0] 51) 77) := ⟨_, rfl⟩
  rw [← hW1]
  have I0 : Hid (ItI S w W1 W.heap.size (fun _ => strL []) (madeCells #[.bool false, .slice none 0 0, .slice none 0 0] 51)) := hid (ItI.start (by rw [hW1]; exact blk_new _ _) (F.out.trans (by rw [hW1]; exact (Fr.refl _ _).alloc _)))
  have Y1 : Hid (W1.heap[w.heap.size]? = some (.cells #[.bool false, .slice none 0 0, .slice none 0 0] 77 (0, 0))) := hid (by rw [hW1, blk_old _ _ (by rw [HW1.out]; omega)]; exact Y.out)
  clear hW1
  obtain ⟨⟨h3, h4, h5, h6, h7, h8, h9, h10, h11, h12, h13, h14, h15, h16, h17, h18⟩, h19⟩ := cellsV (I0.out.fr.at HB.out (by simp))
  go_upto_region 12 with fail
  clear h3 h4 h5 h6 h7 h8 h9 h10 h11 h12 h13 h14 h15 h16 h17 h18 h19
  go_loopw [49] (fun v49 wr => ∃ (i : Nat) (cs : Array Value), i ≤ 16 ∧ v49 = .int .i64 (i : Int) ∧ ItI S w wr W.heap.size (fun j => if j < i then refE (c j) else strL []) cs ∧ wr.heap[w.heap.size]? = some (.cells #[.bool false, .slice none 0 0, .slice none 0 0] 77 (0, 0))) (fun v49 _ => 16 - (intOf v49).toNat)
  case atStart => exact ⟨0, _, Nat.zero_le _, rfl, by simpa using I0.out, Y1.out⟩
  case round =>
    obtain ⟨i, cs, hi16, rfl, hI, hY⟩ := hrel
    have II := hid hI
    have YI := hid hY
    clear hI hY
    by_cases hlt : i < 16
    · have hlt' : (i : Int) < 16 := by omega
      by_cases hnil : c i = .nil
      · have hV := HC.out i hlt
        rw [hnil] at hV
        have hix := idxV V hlt wr
        rw [show V i = .nilIface from hV] at hix
        go_wp2
        go_roundw
        case rel => exact ⟨i + 1, cs, by omega, by go_num, II.out.congr (fun j hj => by
            by_cases h1 : j < i
            · rw [if_pos h1, if_pos (by omega)]
            · by_cases h2 : j = i
              · subst h2; rw [if_neg h1, if_pos (by omega), hnil]; rfl
              · rw [if_neg h1, if_neg (by omega)]), YI.out⟩
        case measure => simp [intOf]; omega
      · obtain ⟨T, xx, l, a1, n1, c1, a2, n2, c2, hV, hm, hR⟩ := (HC.out i hlt).meth hnil (HF.out i hlt)
        have hix := idxV V hlt wr
        rw [hV] at hix
        have HM := hid hm
        have HR := hid hR
        clear hm hR hV
        go_upto_region 15 with fail
        clear hix
        have mL := HM.out wr (HI.out.agr II.out.fr)
        go_upto_region 16 with (go_at_call 137; refine (sealedRef_c _).mono ?_; rintro e w1 ⟨rfl, f1⟩; clear mL; have I1 := hid (II.out.quiet f1); have YI1 := hid (blk_frT YI.out f1); clear f1; obtain ⟨l', a1', n1', c1', a2', n2', c2', e0, e1, e2, _⟩ := I1.out.it i hlt; have y0 := blk_cell I1.out.hg (i * 3); have y1 := blk_cell I1.out.hg (i * 3 + 1); have y2 := blk_cell I1.out.hg (i * 3 + 2); rw [e0] at y0; rw [e1] at y1; rw [e2] at y2; have z0 := blk_frozen I1.out.hg (i * 3); have z1 := blk_frozen I1.out.hg (i * 3 + 1); have z2 := blk_frozen I1.out.hg (i * 3 + 2))
        have I2 := hid (I1.out.put (g := W.heap.size) (by rw [HW1.out]; omega) hlt (HR.out.mono (slN_le _)))
        have Y2 : Hid ((((w1.setCell ⟨W.heap.size, i * 3, none⟩ (.bool l)).setCell ⟨W.heap.size, i * 3 + 1, none⟩ (.slice a1 n1 c1)).setCell ⟨W.heap.size, i * 3 + 2, none⟩ (.slice a2 n2 c2)).heap[w.heap.size]? = some (.cells #[.bool false, .slice none 0 0, .slice none 0 0] 77 (0, 0))) := hid (by
          rw [blk_setne _ _ _ (by rw [HW1.out]; omega), blk_setne _ _ _ (by rw [HW1.out]; omega), blk_setne _ _ _ (by rw [HW1.out]; omega)]; exact YI1.out)
        clear e0 e1 e2 y0 y1 y2 z0 z1 z2
        go_wp2
        go_roundw
        case rel => exact ⟨i + 1, _, by omega, by go_num, I2.out.congr (fun j hj => by
            by_cases h2 : j = i
            · subst h2; rw [if_pos rfl, if_pos (by omega)]
            · rw [if_neg h2]
              by_cases h1 : j < i
              · rw [if_pos h1, if_pos (by omega)]
              · rw [if_neg h1, if_neg (by omega)]), Y2.out⟩
        case measure => simp [intOf]; omega
    · have hie : i = 16 := by omega
      subst hie
      have II2 := hid (II.out.congr (X' := fun j => refE (c j)) (fun j hj => if_pos hj))
      have h19 := (cellsV (II.out.fr.at HB.out (by simp))).2
      obtain ⟨u, hu⟩ : ∃ u, cs[49]? = some u := ⟨_, Array.getElem?_eq_getElem (by rw [II.out.sz]; omega)⟩
      have y49 := blk_cell II.out.hg 49
      rw [hu] at y49
      have z49 := blk_frozen II.out.hg 49
      have GW : W.heap.size = w.heap.size + 1 := HW1.out
      have Y3 : Hid ((wr.setCell ⟨W.heap.size, 49, none⟩ (.slice va nx vc)).heap[w.heap.size]? = some (.cells #[.bool false, .slice none 0 0, .slice none 0 0] 77 (0, 0))) := hid (by rw [blk_setne _ _ _ (by omega)]; exact YI.out)
      have F3 : Hid (Fr [] w (wr.setCell ⟨W.heap.size, 49, none⟩ (.slice va nx vc))) := hid (II.out.fr.set _ _ (.inr (by omega)))
      have G3 : Hid ((wr.setCell ⟨W.heap.size, 49, none⟩ (.slice va nx vc)).heap[W.heap.size]? = some (.cells (cs.setIfInBounds 49 (.slice va nx vc)) 77 (0, 0))) := hid (by rw [blk_set II.out.hg])
      have T3 := hid (three_set (u := .bool true) (v := .slice none 0 0) (t := .slice (some ⟨W.heap.size, 0, none⟩) 17 17) Y3.out)
      have FT := hid (((F3.out.set (p := w.heap.size) 0 (.bool true) (.inr (Nat.le_refl _))).set (p := w.heap.size) 1 (.slice none 0 0) (.inr (Nat.le_refl _))).set (p := w.heap.size) 2 (.slice (some ⟨W.heap.size, 0, none⟩) 17 17) (.inr (Nat.le_refl _)))
      have GT : Hid (((((wr.setCell ⟨W.heap.size, 49, none⟩ (.slice va nx vc)).setCell ⟨w.heap.size, 0, none⟩ (.bool true)).setCell ⟨w.heap.size, 1, none⟩ (.slice none 0 0)).setCell ⟨w.heap.size, 2, none⟩ (.slice (some ⟨W.heap.size, 0, none⟩) 17 17)).heap[W.heap.size]? = some (.cells (cs.setIfInBounds 49 (.slice va nx vc)) 77 (0, 0))) := hid (by rw [blk_setne _ _ _ (by omega), blk_setne _ _ _ (by omega), blk_setne _ _ _ (by omega)]; exact G3.out)
      clear hu
      have y0 := blk_cell Y3.out 0
      have y1 := blk_cell Y3.out 1
      have y2 := blk_cell Y3.out 2
      have z0 := blk_frozen Y3.out 0
      have z1 := blk_frozen Y3.out 1
      have z2 := blk_frozen Y3.out 2
      simp at y0 y1 y2
      have GWH := hid GW
      clear GW
      go_wp2
      refine bodyPost_ret (v := .tuple #[.agg #[.bool true, .slice none 0 0, .slice (some ⟨W.heap.size, 0, none⟩) 17 17], .int .i64 0]) (ret_ctU (p := 2) (u := 3) rfl (by kernel_rfl) (by kernel_rfl) (load_it T3.out)) rfl ?_
      have hp1 : ∀ j ∈ List.range 16, 1 ≤ (refE (c j)).length := fun j hj => by
        obtain ⟨_, _, _, _, _, _, _, _, _, _, h4⟩ := II2.out.it j (List.mem_range.1 hj)
        exact h4.pos
      have hF := flat_len (fun i => refE (c i)) (List.range 16) hp1
      have hL := lstF_len ((List.range 16).flatMap (fun i => refE (c i)) ++ strL x)
      have hX := (strL_len x).2.2
      rw [List.length_append] at hL
      have hr16 : (List.range 16).length = 16 := List.length_range
      rw [hr16] at hF
      obtain ⟨E, hE⟩ : ∃ E, E = (lstF ((List.range 16).flatMap (fun i => refE (c i)) ++ strL x)).length := ⟨_, rfl⟩
      rw [← hE] at hL ⊢
      refine ⟨_, min ((E - 2) / 9) 5 + 1, rfl, by omega, by omega, by omega, fun w'' ha => ?_, ⟨_, _, _, _, _, _, _, rfl⟩, FT.out⟩
      have aS : Agr S w w'' := (HI.out.agr FT.out).trans (ha.sub fun k hk => Up.old hk)
      have GB : w''.heap[W.heap.size]? = some (.cells (cs.setIfInBounds 49 (.slice va nx vc)) 77 (0, 0)) := by
        rw [ha _ (.inr ⟨by rw [GWH.out]; omega, (Array.getElem?_eq_some_iff.1 GT.out).1⟩)]; exact GT.out
      have hM := ItV.many (m := 19) (N := 17) (x := fun j => if j < 16 then refE (c j) else strL x) (D := min ((E - 2) / 9) 5) GB (fun j hj => ?_) (by omega)
      · rw [flat17, ← hE] at hM
        exact hM
      · by_cases h16 : j < 16
        · obtain ⟨l, a1, n1, c1, a2, n2, c2, e0, e1, e2, d, d1, d2, d3⟩ := II2.out.it j h16
          have h4 := hF.2 j (List.mem_range.2 h16)
          refine ⟨l, .slice a1 n1 c1, .slice a2 n2 c2, (refE (c j)).length, ?_, ?_, ?_, ?_⟩
          · rw [Array.getElem?_setIfInBounds_ne (by omega)]; exact e0
          · rw [Array.getElem?_setIfInBounds_ne (by omega)]; exact e1
          · rw [Array.getElem?_setIfInBounds_ne (by omega)]; exact e2
          · show ItV 20 w'' _ (if j < 16 then refE (c j) else strL x) _ _
            rw [if_pos h16]
            have h5 : 9 * d ≤ (refE (c j)).length + 15 := d1
            have h6 : (refE (c j)).length + 16 ≤ ((List.range 16).flatMap (fun i => refE (c i))).length + 1 := h4
            have h7 := (refE_len (c j) (HF.out j h16)).2
            exact (d3 w'' aS).mono (by omega) (Nat.le_refl _)
        · have hj16 : j = 16 := by omega
          subst hj16
          have hsz := II2.out.sz
          refine ⟨false, .slice va nx vc, .slice none 0 0, 1, ?_, ?_, ?_, ?_⟩
          · rw [Array.getElem?_setIfInBounds_ne (by omega)]; exact II2.out.l0
          · rw [Array.getElem?_setIfInBounds_self_of_lt (by omega)]
          · rw [Array.getElem?_setIfInBounds_ne (by omega)]; exact II2.out.l2
          · show ItV 20 w'' _ (if 16 < 16 then refE (c 16) else strL x) _ _
            rw [if_neg (by omega)]
            exact (ItV.str (n := 19) (HV.out w'' aS) hx (by omega)).mono (by omega) (Nat.le_refl _)
end Go.Proofs.YtmpfnglcmaollaaDoor
