/-
  A hash as a reference.
-/
import Derived.Test.YtmpfnglcmaollaaDoorJ11
import Derived.Test.YtmpfnglcmaollaaDoorJ04
import Derived.Laws.ResultCell
namespace Go.Proofs.YtmpfnglcmaollaaDoor
open Go.ChangeShapes Go.WideShapes Go.ChangeAt Go.RowKit

theorem slice_allT (T : TypeId) (n : Nat) (hn : Tryd.prog.arrayLen T = n) (he : ∀ w, (sizeOf (Tryd.prog.elem T)).run Tryd.prog w = .ok 1 w) (hu : Tryd.prog.underlying T = some (.array (Tryd.prog.arrayLen T) (Tryd.prog.elem T))) (w : World) (p o : Nat) : (Instr.sliceAt T (.pointer (some ⟨p, o, none⟩)) none none none).run Tryd.prog w = .ok (.slice (some ⟨p, o, none⟩) n n) w := by
  have := run_sliceAt_array_all (P := Tryd.prog) w T ⟨p, o, none⟩ hu
  rw [this, he, hn]
  simp only [Result.andThen_ok, slicedAt, Nat.zero_mul, Nat.sub_zero]
  split
  · rfl
  · rw [Addr.add_lit, Nat.add_zero]
theorem alenF : Tryd.prog.arrayLen 101 = 32 := by kernel_rfl
theorem elemF (w : World) : (sizeOf (Tryd.prog.elem 101)).run Tryd.prog w = .ok 1 w := by kernel_rfl
theorem ItV.str {n : Nat} {w : World} {bs : Value} {b : List Nat} (h : Rd w bs (bv b)) (hb : By b) (hl : b.length ≤ 140737488355328) : ItV (n + 1) w (.agg #[.bool false, bs, .slice none 0 0]) (strL b) 1 1 := by
  refine ⟨mkT false b [], ⟨bs, none, 0, rfl, h, hb, hl, Nat.le_refl _, by simp [tK_mk], fun h0 => by simp [tK_mk] at h0⟩, rfl, ⟨hb, fun k hk => by simp [tK_mk] at hk⟩, ⟨.inr ⟨rfl, rfl⟩, fun k hk => by simp [tK_mk] at hk⟩, fun k hk => by simp [tK_mk] at hk, ?_⟩
  show 1 + ((tK (mkT false b [] : Tr (n + 1))).map (cnt n)).sum ≤ 1
  simp [tK_mk]
theorem ret_cI {fn : Func} {p : Tmp} {ty : TypeId} (h : fn.results = #[.cell p ty]) {tmps : Array Value} {w : World} {g : Nat} {cs : Array Value} (hp : tmps.getD p undef = .pointer (some ⟨g, 0, none⟩)) (hg : (loadVar ty ⟨g, 0, none⟩).run Tryd.prog w = .ok (.agg cs) w) :
    (results fn tmps).run Tryd.prog w = .ok (.agg cs) w := by
  have hp' : tmps[p]?.getD undef = .pointer (some ⟨g, 0, none⟩) := by simpa using hp
  simp [results, h, hp', asAddr, hg]
theorem load_it {w : World} {g : Nat} {a b c : Value} (hg : w.heap[g]? = some (.cells #[a, b, c] 77 (0, 0))) : (loadVar 77 ⟨g, 0, none⟩).run Tryd.prog w = .ok (.agg #[a, b, c]) w := by
  have c0 := blk_cell hg 0
  have c1 := blk_cell hg 1
  have c2 := blk_cell hg 2
  simp at c0 c1 c2
  go_simp
theorem three_set {W : World} {q : Nat} {T : TypeId} {x y z u v t : Value} (h : W.heap[q]? = some (.cells #[x, y, z] T (0, 0))) : (((W.setCell ⟨q, 0, none⟩ u).setCell ⟨q, 1, none⟩ v).setCell ⟨q, 2, none⟩ t).heap[q]? = some (.cells #[u, v, t] T (0, 0)) := by
  have h1 := blk_set h 0 u
  have h2 := blk_set h1 1 v
  have h3 := blk_set h2 2 t
  simpa using h3
set_option maxRecDepth 20000 in
set_option maxHeartbeats 1600000 in
theorem farRef_c (w : World) {l : List Nat} (hl : l.length = 32) :
    Calls Tryd.prog 112 #[.agg (bv l).toArray] w fun e w' => ∃ g, e = .returned (.agg #[.bool false, .slice (some ⟨g, 0, none⟩) 32 32, .slice none 0 0]) ∧ w.heap.size ≤ g ∧ Rd w' (.slice (some ⟨g, 0, none⟩) 32 32) (bv l) ∧ Fr [] w w' := by
  obtain ⟨W, hW⟩ : ∃ W, W = (w.alloc (.cells (bv l).toArray 101)).alloc (.cells #[.bool false, .slice none 0 0, .slice none 0 0] 77) := ⟨_, rfl⟩
  have F : Hid (Fr [] w W) := hid (by rw [hW]; exact ((Fr.refl _ w).alloc _).alloc _)
  have X : Hid (W.heap[w.heap.size]? = some (.cells (bv l).toArray 101 (0, 0))) := hid (by rw [hW, blk_old _ _ (by simp)]; exact blk_new _ _)
  have Y : Hid (W.heap[w.heap.size + 1]? = some (.cells #[.bool false, .slice none 0 0, .slice none 0 0] 77 (0, 0))) := hid (by rw [hW]; exact new_at _ _ (by simp))
  have s2 := slice_allT 101 32 alenF elemF (by kernel_rfl) W w.heap.size 0
  go_enter Tryd.func112, Tryd.ntmps112
  go_upto_region 1 with fail
  rw [← hW]
  clear hW
  have y0 := blk_cell Y.out 0
  have y1 := blk_cell Y.out 1
  have y2 := blk_cell Y.out 2
  have z0 := blk_frozen Y.out 0
  have z1 := blk_frozen Y.out 1
  have z2 := blk_frozen Y.out 2
  simp at y0 y1 y2
  have T3 := hid (three_set (u := .bool false) (v := .slice (some ⟨w.heap.size, 0, none⟩) 32 32) (t := .slice none 0 0) Y.out)
  have FT : Hid (Fr [] w (((W.setCell ⟨w.heap.size + 1, 0, none⟩ (.bool false)).setCell ⟨w.heap.size + 1, 1, none⟩ (.slice (some ⟨w.heap.size, 0, none⟩) 32 32)).setCell ⟨w.heap.size + 1, 2, none⟩ (.slice none 0 0))) := hid (((F.out.set _ _ (.inr (by omega))).set _ _ (.inr (by omega))).set _ _ (.inr (by omega)))
  have XT : Hid ((((W.setCell ⟨w.heap.size + 1, 0, none⟩ (.bool false)).setCell ⟨w.heap.size + 1, 1, none⟩ (.slice (some ⟨w.heap.size, 0, none⟩) 32 32)).setCell ⟨w.heap.size + 1, 2, none⟩ (.slice none 0 0)).heap[w.heap.size]? = some (.cells (bv l).toArray 101 (0, 0))) := hid (by rw [blk_setne _ _ _ (by omega), blk_setne _ _ _ (by omega), blk_setne _ _ _ (by omega)]; exact X.out)
  go_wp2
  refine bodyPost_ret (ret_cI rfl rfl (load_it T3.out)) rfl ?_
  refine ⟨w.heap.size, rfl, Nat.le_refl _, .inr ⟨_, 32, by rw [bv_len, hl], by rw [bv_len, hl]; exact Nat.le_refl _, fun j u hj => ?_⟩, FT.out⟩
  rw [Addr.add_lit, Nat.zero_add, blk_cell XT.out, ← Array.getElem?_toList]
  exact hj
end Go.Proofs.YtmpfnglcmaollaaDoor
namespace Go.Proofs.YtmpfnglcmaollaaDoor
open Go.ChangeShapes Go.WideShapes Go.ChangeAt Go.RowKit

theorem store3 {W : World} {g : Nat} {x y z a b c : Value} {T : TypeId} (h : W.heap[g]? = some (.cells #[x, y, z] T (0, 0))) : (((W.setCell ⟨g, 0, none⟩ a).setCell ⟨g, 1, none⟩ b).setCell ⟨g, 2, none⟩ c).heap[g]? = some (.cells #[a, b, c] T (0, 0)) := by
  rw [blk_set (blk_set (blk_set h 0 a) 1 b) 2 c]; rfl
theorem fr3 {w W : World} {g : Nat} (h : Fr [] w W) (hg : w.heap.size ≤ g) (a b c : Value) : Fr [] w (((W.setCell ⟨g, 0, none⟩ a).setCell ⟨g, 1, none⟩ b).setCell ⟨g, 2, none⟩ c) :=
  ((h.set _ _ (.inr hg)).set _ _ (.inr hg)).set _ _ (.inr hg)
theorem sizeItem : (Tryd.prog.info? 77).map (·.size) = some 3 := by kernel_rfl
theorem load_item {w : World} {g : Nat} {a b c : Value} {t : TypeId} (hg : w.heap[g]? = some (.cells #[a, b, c] t (0, 0))) : (loadVar 77 ⟨g, 0, none⟩).run Tryd.prog w = .ok (.agg #[a, b, c]) w :=
  run_loadVar_row w g t 77 #[a, b, c] (0, 0) _ hg Tryd.underlying77 rfl sizeItem
theorem sizePart : (Tryd.prog.info? 170).map (·.size) = some 3 := by kernel_rfl
theorem load_part {w : World} {g : Nat} {a b c : Value} {t : TypeId} (hg : w.heap[g]? = some (.cells #[a, b, c] t (0, 0))) : (loadVar 170 ⟨g, 0, none⟩).run Tryd.prog w = .ok (.agg #[a, b, c]) w :=
  run_loadVar_row w g t 170 #[a, b, c] (0, 0) _ hg Tryd.underlying170 rfl sizePart
theorem ret_ct {fn : Func} {p u : Tmp} {ty : TypeId} (h : fn.results = #[.cell p ty, .tmp u]) {tmps : Array Value} {w : World} {g : Nat} {cs : Array Value} (hp : tmps.getD p undef = .pointer (some ⟨g, 0, none⟩)) (hg : (loadVar ty ⟨g, 0, none⟩).run Tryd.prog w = .ok (.agg cs) w) :
    (results fn tmps).run Tryd.prog w = .ok (.tuple #[.agg cs, tmps.getD u undef]) w := by
  rw [results_cell_tmp h, hp]
  simp [asAddr, hg]
theorem ret_ctt {fn : Func} {p u v : Tmp} {ty : TypeId} (h : fn.results = #[.cell p ty, .tmp u, .tmp v]) {tmps : Array Value} {w : World} {g : Nat} {cs : Array Value} (hp : tmps.getD p undef = .pointer (some ⟨g, 0, none⟩)) (hg : (loadVar ty ⟨g, 0, none⟩).run Tryd.prog w = .ok (.agg cs) w) :
    (results fn tmps).run Tryd.prog w = .ok (.tuple #[.agg cs, tmps.getD u undef, tmps.getD v undef]) w := by
  have hp' : tmps[p]?.getD undef = .pointer (some ⟨g, 0, none⟩) := by simpa using hp
  simp [results, h, hp', asAddr, hg]
end Go.Proofs.YtmpfnglcmaollaaDoor
namespace Go.Proofs.YtmpfnglcmaollaaDoor
open Go.ChangeShapes Go.WideShapes Go.ChangeAt Go.RowKit

theorem blk_frT {w w' : World} {b : Nat} {o : Obj} (h : w.heap[b]? = some o) (f : Fr [] w w') : w'.heap[b]? = some o := by
  rw [f.block b (Array.getElem?_eq_some_iff.1 h).1 (by simp)]; exact h
theorem ownsRow_neT {w : World} {base size n : Nat} {e t : TypeId} {v : Value} {xs : List Value} {b : Nat} {cs : Array Value} {fz : Nat × Nat} (h : w.ownsRow base e size v n xs) (hb : w.heap[b]? = some (.cells cs t fz)) (ht : e ≠ t) : v.ownBlock ≠ some b := by
  intro hv
  rcases h.2 with ⟨rfl, _⟩ | ⟨g, cap, cur, rfl, _, h3, _⟩
  · simp [Value.ownBlock] at hv
  · simp only [Value.ownBlock, Option.some.injEq] at hv
    subst hv; rw [hb] at h3; simp at h3; exact ht h3.2.1.symm
theorem hgt_mono : ∀ (n : Nat) (t : Tr n) (a b : Nat), hgt n t a → a ≤ b → hgt n t b
  | 0, _, _, _, h, _ => h.elim
  | _ + 1, _, 0, _, h, _ => h.elim
  | _ + 1, _, _ + 1, 0, _, h => by omega
  | n + 1, t, a + 1, b + 1, h, hb => fun c hc => hgt_mono n c a b (h c hc) (by omega)
theorem ItV.mono {n : Nat} {w : World} {v : Value} {x : List Nat} {d d' c c' : Nat} (h : ItV n w v x d c) (hd : d ≤ d') (hc : c ≤ c') : ItV n w v x d' c' := by
  obtain ⟨t, h1, h2, h3, h4, h5, h6⟩ := h
  exact ⟨t, h1, h2, h3, h4, hgt_mono n t d d' h5 hd, Nat.le_trans h6 hc⟩
theorem own_ltT {w : World} {base size n : Nat} {e : TypeId} {v : Value} {xs : List Value} (h : w.ownsRow base e size v n xs) {k : Nat} (hk : v.ownBlock = some k) : k < w.heap.size := by
  rcases h.2 with ⟨rfl, _⟩ | ⟨g, cap, cur, rfl, _, h3, _⟩
  · simp [Value.ownBlock] at hk
  · simp only [Value.ownBlock, Option.some.injEq] at hk
    subst hk
    exact (Array.getElem?_eq_some_iff.1 h3).1
theorem Rd.stepT {w w' : World} {v : Value} {xs : List Value} (h : Rd w v xs) (hb : ∀ k, v.ownBlock = some k → w'.heap[k]? = w.heap[k]?) : Rd w' v xs := by
  rcases h with h | ⟨a, c, rfl, h4, h5⟩
  · exact .inl h
  · refine .inr ⟨a, c, rfl, h4, fun j u hj => ?_⟩
    rw [World.cell?_of_block (w := w) (by rw [add_block]; exact hb _ rfl)]; exact h5 j u hj
/-- Two items side by side are a list's. -/
theorem ItV.two {m : Nat} {w : World} {g : Nat} {T : TypeId} {l0 l1 : Bool} {b0 i0 b1 i1 : Value} {x y : List Nat} {d c e : Nat} (h : w.heap[g]? = some (.cells #[.bool l0, b0, i0, .bool l1, b1, i1] T (0, 0))) (h0 : ItV m w (.agg #[.bool l0, b0, i0]) x d c) (h1 : ItV m w (.agg #[.bool l1, b1, i1]) y d e) : ItV (m + 1) w (.agg #[.bool true, .slice none 0 0, .slice (some ⟨g, 0, none⟩) 2 2]) (lstF (x ++ y)) (d + 1) (c + e + 1) := by
  obtain ⟨t, p1, p2, p3, p4, p5, p6⟩ := h0
  obtain ⟨u, q1, q2, q3, q4, q5, q6⟩ := h1
  refine ⟨mkT true [] [t, u], ⟨.slice none 0 0, some ⟨g, 0, none⟩, 2, rfl, .inl ⟨rfl, rfl⟩, fun y hy => by simp [tB_mk] at hy, by simp [tB_mk], by simp [tK_mk], by simp [tK_mk], fun _ => ⟨g, 0, rfl, fun j k hj => ?_⟩⟩, ?_, ⟨fun y hy => by simp [tB_mk] at hy, fun k hk => ?_⟩, ⟨.inl ⟨rfl, rfl⟩, fun k hk => ?_⟩, fun k hk => ?_, ?_⟩
  · rcases j with _ | _ | j
    · simp [tK_mk] at hj
      subst hj
      exact ⟨l0, b0, i0, by simpa using blk_cell h 0, by simpa using blk_cell h 1, by simpa using blk_cell h 2, p1⟩
    · simp [tK_mk] at hj
      subst hj
      exact ⟨l1, b1, i1, by simpa using blk_cell h 3, by simpa using blk_cell h 4, by simpa using blk_cell h 5, q1⟩
    · simp [tK_mk] at hj
  · show headL 192 (([t, u] : List (Tr m)).flatMap (enc m)).length ++ ([t, u] : List (Tr m)).flatMap (enc m) = _
    simp only [List.flatMap_cons, List.flatMap_nil, List.append_nil, p2, q2]
    rfl
  · simp [tK_mk] at hk; rcases hk with rfl | rfl
    · exact p3
    · exact q3
  · simp [tK_mk] at hk; rcases hk with rfl | rfl
    · exact p4
    · exact q4
  · simp [tK_mk] at hk; rcases hk with rfl | rfl
    · exact p5
    · exact q5
  · show 1 + (([t, u] : List (Tr m)).map (cnt m)).sum ≤ _
    simp
    omega
theorem step_build2 {ops : Array Oper} {o : Oper} {a : Act} {w : World} {K : Act → World → Prop} {Q : Exit → Act → World → Prop} {E : Prop} (hg : o.guard = none) (x y : Operand) (hop : o.op = Op.buildSlice 75 2 #[(0, x), (1, y)]) {l l' : Bool} {a0 a1 b0 b1 : Option Addr} {n0 n1 c0 c1 m0 m1 d0 d1 : Nat} (hx : a.eval x = .agg #[.bool l, .slice a0 n0 c0, .slice a1 n1 c1]) (hy : a.eval y = .agg #[.bool l', .slice b0 m0 d0, .slice b1 m1 d1])
    (hK : K (a.put o.dst (.slice (some ⟨w.heap.size, 0, none⟩) 2 2)) (w.alloc (.cells #[.bool l, .slice a0 n0 c0, .slice a1 n1 c1, .bool l', .slice b0 m0 d0, .slice b1 m1 d1] 77))) :
    if Region.wanted o (yielded ops a.tmps) = true then Oper.wp Tryd.prog o a w K Q else E := by
  have hw : Region.wanted o (yielded ops a.tmps) = true := by simp [Region.wanted, hg]
  rw [if_pos hw]
  unfold Oper.wp
  simp [execOp, hop, hx, hy]
  go_simp
  exact hK
set_option maxRecDepth 20000 in
set_option maxHeartbeats 1600000 in
theorem pair_c (w : World) {v : Value} {p : List Nat} (hr : Rd w v (bv p)) (leaf : Bool) (hok : okP p = true) {m : Nat} {ev : Value} {x : List Nat} {d c : Nat} (he : ItV (m + 1) w ev x d c) (hd : 1 ≤ d) :
    Calls Tryd.prog 67 #[v, .bool leaf, ev] w fun e w' => ∃ iv, e = .returned (.tuple #[iv, .int .i64 0]) ∧ (∀ w'', (∀ k, w.heap.size ≤ k → k < w'.heap.size → w''.heap[k]? = w'.heap[k]?) → ItV (m + 1) w'' ev x d c → ItV (m + 2) w'' iv (lstF (strL (packF p leaf) ++ x)) (d + 1) (c + 2)) ∧ (∃ l a1 n1 c1 a2 n2 c2, iv = .agg #[.bool l, .slice a1 n1 c1, .slice a2 n2 c2]) ∧ Fr [] w w' := by
  have hl := okP_len hok
  have hb : By p := fun y hy => by have := okP_nb hok y hy; omega
  have HNB := hid (okP_nb hok)
  have HL3 := hid (packF_len p leaf)
  have HL := hid hl
  obtain ⟨t, h1, h2, h3, h4, h5, h6⟩ := he
  obtain ⟨l', a1, n1, c1, a2, n2, c2, rfl⟩ := h1.agg
  have IT := hid h1
  clear h1
  obtain ⟨W, hW⟩ : ∃ W, W = (w.alloc (.cells #[.bool l', .slice a1 n1 c1, .slice a2 n2 c2] 77)).alloc (.cells #[.bool false, .slice none 0 0, .slice none 0 0] 77) := ⟨_, rfl⟩
  have F : Hid (Fr [] w W) := hid (by rw [hW]; exact ((Fr.refl _ w).alloc _).alloc _)
  have X : Hid (W.heap[w.heap.size]? = some (.cells #[.bool l', .slice a1 n1 c1, .slice a2 n2 c2] 77 (0, 0))) := hid (by rw [hW, blk_old _ _ (by simp)]; exact blk_new _ _)
  have Y : Hid (W.heap[w.heap.size + 1]? = some (.cells #[.bool false, .slice none 0 0, .slice none 0 0] 77 (0, 0))) := hid (by rw [hW]; exact new_at _ _ (by simp))
  have PC := hid ((pack_c W (hr.fr F.out) hb leaf (by omega)).mono (R' := fun e w' => ∃ v', e = .returned (.tuple #[v', .int .i64 0]) ∧ w'.ownsRow W.heap.size 5 1 v' (packF p leaf).length (bv (packF p leaf)) ∧ Fr [] W w') (by
    rintro e w2 ⟨(⟨_, v', rfl, O⟩ | ⟨h, _⟩), f2⟩
    · exact ⟨v', rfl, O, f2⟩
    · rw [hok] at h; cases h))
  clear hr
  go_enter Tryd.func67, Tryd.ntmps67
  go_upto_region 1 with fail
  rw [← hW]
  clear hW
  go_upto_region 2 with (go_at_call 20; refine PC.out.mono ?_; rintro e w2 ⟨v', rfl, O, f2⟩; have OO := hid O; have F2 := hid (F.out.trans f2); have X2 := hid (blk_frT X.out f2); have Y2 := hid (blk_frT Y.out f2); clear O f2)
  have RV := hid (Rd.ownB OO.out)
  obtain ⟨a3, c3, e3⟩ := RV.out.form
  rw [bv_len] at e3
  subst e3
  obtain ⟨n3, hn3⟩ : ∃ n3, n3 = (packF p leaf).length := ⟨_, rfl⟩
  rw [← hn3] at OO RV ⊢
  have HN3 := hid hn3
  clear hn3
  have x0 := blk_cell X2.out 0
  have x1 := blk_cell X2.out 1
  have x2 := blk_cell X2.out 2
  simp at x0 x1 x2
  obtain ⟨W3, hW3⟩ : ∃ W3, W3 = w2.alloc (.cells #[.bool false, .slice a3 n3 c3, .slice none 0 0, .bool l', .slice a1 n1 c1, .slice a2 n2 c2] 77) := ⟨_, rfl⟩
  have B2 : Hid (w.heap.size + 2 ≤ w2.heap.size) := hid (by have := (Array.getElem?_eq_some_iff.1 Y2.out).1; omega)
  have F3 : Hid (Fr [] w W3) := hid (by rw [hW3]; exact F2.out.alloc _)
  have Y3 : Hid (W3.heap[w.heap.size + 1]? = some (.cells #[.bool false, .slice none 0 0, .slice none 0 0] 77 (0, 0))) := hid (by rw [hW3, blk_old _ _ (by have := B2.out; omega)]; exact Y2.out)
  have Z3 : Hid (W3.heap[w2.heap.size]? = some (.cells #[.bool false, .slice a3 n3 c3, .slice none 0 0, .bool l', .slice a1 n1 c1, .slice a2 n2 c2] 77 (0, 0))) := hid (by rw [hW3]; exact blk_new _ _)
  have T3 := hid (three_set (u := .bool true) (v := .slice none 0 0) (t := .slice (some ⟨w2.heap.size, 0, none⟩) 2 2) Y3.out)
  have y0 := blk_cell Y3.out 0
  have y1 := blk_cell Y3.out 1
  have y2 := blk_cell Y3.out 2
  have z0 := blk_frozen Y3.out 0
  have z1 := blk_frozen Y3.out 1
  have z2 := blk_frozen Y3.out 2
  simp at y0 y1 y2
  have FT : Hid (Fr [] w (((W3.setCell ⟨w.heap.size + 1, 0, none⟩ (.bool true)).setCell ⟨w.heap.size + 1, 1, none⟩ (.slice none 0 0)).setCell ⟨w.heap.size + 1, 2, none⟩ (.slice (some ⟨w2.heap.size, 0, none⟩) 2 2))) := hid (((F3.out.set _ _ (.inr (by omega))).set _ _ (.inr (by omega))).set _ _ (.inr (by omega)))
  have ZT : Hid ((((W3.setCell ⟨w.heap.size + 1, 0, none⟩ (.bool true)).setCell ⟨w.heap.size + 1, 1, none⟩ (.slice none 0 0)).setCell ⟨w.heap.size + 1, 2, none⟩ (.slice (some ⟨w2.heap.size, 0, none⟩) 2 2)).heap[w2.heap.size]? = some (.cells #[.bool false, .slice a3 n3 c3, .slice none 0 0, .bool l', .slice a1 n1 c1, .slice a2 n2 c2] 77 (0, 0))) := hid (by
    have := B2.out
    rw [blk_setne _ _ _ (by omega), blk_setne _ _ _ (by omega), blk_setne _ _ _ (by omega)]; exact Z3.out)
  have KP : Hid (∀ k, (Value.slice a3 n3 c3).ownBlock = some k → (((W3.setCell ⟨w.heap.size + 1, 0, none⟩ (.bool true)).setCell ⟨w.heap.size + 1, 1, none⟩ (.slice none 0 0)).setCell ⟨w.heap.size + 1, 2, none⟩ (.slice (some ⟨w2.heap.size, 0, none⟩) 2 2)).heap[k]? = w2.heap[k]?) := hid (fun k hk => by
    have hne : k ≠ w.heap.size + 1 := fun e => ownsRow_neT OO.out Y2.out (by decide) (by rw [hk, e])
    rw [blk_setne _ _ _ hne, blk_setne _ _ _ hne, blk_setne _ _ _ hne, hW3]
    exact ((Fr.refl [] w2).alloc _).block k (own_ltT OO.out hk) (by simp))
  have HSZ : Hid (∀ k, k < w2.heap.size + 1 → k < (((W3.setCell ⟨w.heap.size + 1, 0, none⟩ (.bool true)).setCell ⟨w.heap.size + 1, 1, none⟩ (.slice none 0 0)).setCell ⟨w.heap.size + 1, 2, none⟩ (.slice (some ⟨w2.heap.size, 0, none⟩) 2 2)).heap.size) := hid (fun k h => by
    have := (Array.getElem?_eq_some_iff.1 ZT.out).1
    omega)
  subst hW3
  go_wp2
  refine bodyPost_ret (ret_ct rfl rfl (load_it T3.out)) rfl ?_
  refine ⟨_, rfl, fun w'' hk hE => ?_, ⟨_, _, _, _, _, _, _, rfl⟩, FT.out⟩
  have RP : Rd w'' (.slice a3 n3 c3) (bv (packF p leaf)) := RV.out.stepT (fun k h => by
    have h1 := own_ltT OO.out h
    have h2 := (OO.out.lt k h).1
    rw [hk k (by have := F.out.size; omega) (HSZ.out k (by omega))]
    exact KP.out k h)
  have hI : ItV (m + 1) w'' (.agg #[.bool false, .slice a3 n3 c3, .slice none 0 0]) (strL (packF p leaf)) 1 1 := ItV.str RP (packF_by HNB.out leaf) (by have := HL3.out; have := HL.out; omega)
  have Z4 := hk w2.heap.size (by have := B2.out; omega) (HSZ.out _ (by omega))
  rw [ZT.out] at Z4
  exact (ItV.two Z4 (ItV.mono hI hd (Nat.le_refl _)) hE).mono (Nat.le_refl _) (by omega)
end Go.Proofs.YtmpfnglcmaollaaDoor
