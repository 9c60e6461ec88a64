/-
  What slices.Insert answers for bytes of the call's own.
-/
import Derived.Test.YtmpfnglcmaollaaDoorJ01
import Derived.Laws.CopyOwn
import Derived.Lib.AppendZerosOnto
import Derived.Lib.Overlaps
import Derived.Laws.Externs
namespace Go.Proofs.YtmpfnglcmaollaaDoor
open Go.ChangeShapes Go.WideShapes Go.ChangeAt Go.RowKit

theorem sizeB : (Tryd.prog.info? 5).map (·.size) = some 1 := by kernel_rfl
theorem sizeOfB (w : World) : (Go.sizeOf 5).run Tryd.prog w = .ok 1 w := by
  obtain ⟨i0, hi, hz0, hz1, hz2⟩ := info_parts infoB
  simp [sizeOf, typeInfo, hi, hz1]

/-- copy whose run is known, in a walk, and as a step of a region that draws. -/
theorem wpList_copy_is {w : World} {ops : Array Oper} {rest : List Oper} {o : Oper} {a : Act} {Q : Exit → Act → World → Prop} (hgd : o.guard = none) (d s : Operand)
    (ho : o.op = .call { callee := .builtin .copy, args := #[d, s], argTypes := #[33, 33] }) {v u : Value} (hd : a.eval d = v) (hs : a.eval s = u) {v' : Value} {w' : World}
    (hr : (Builtin.copy_ #[33, 33] o.type #[v, u]).run Tryd.prog w = .ok v' w') (h : wpList Tryd.prog ops Q rest (a.put o.dst v') w') : wpList Tryd.prog ops Q (o :: rest) a w := by
  refine wpList_plain hgd fun K hK => ?_
  unfold Oper.wp
  simp [execOp, ho, resolve, invoke, builtin, hd, hs, hr, Result.andThen]
  exact hK _ _ h
theorem step_copy_is {w : World} {ops : Array Oper} {o : Oper} {a : Act} {K : Act → World → Prop} {Q : Exit → Act → World → Prop} {E : Prop} (hgd : o.guard = none) (d s : Operand)
    (ho : o.op = .call { callee := .builtin .copy, args := #[d, s], argTypes := #[33, 33] }) {v u : Value} (hd : a.eval d = v) (hs : a.eval s = u) {v' : Value} {w' : World}
    (hr : (Builtin.copy_ #[33, 33] o.type #[v, u]).run Tryd.prog w = .ok v' w') (h : K (a.put o.dst v') w') : if Region.wanted o (yielded ops a.tmps) = true then Oper.wp Tryd.prog o a w K Q else E := by
  have hw : Region.wanted o (yielded ops a.tmps) = true := by simp [Region.wanted, hgd]
  rw [if_pos hw]
  unfold Oper.wp
  simp [execOp, ho, resolve, invoke, builtin, hd, hs, hr, Result.andThen]
  exact h

theorem insert_none (w : World) {v u : Value} {n i c : Nat} {a : Option Addr} (hv : v = .slice a n c) {au : Option Addr} {cu : Nat} (hu : u = .slice au 0 cu) (hi : i ≤ n) (hc : n ≤ c) (hn : n ≤ 140737488355328) (ha : a = none → c = 0 ∧ n = 0) :
    Calls Tryd.prog 87 #[v, .int .i64 (i : Int), u] w fun e w' => e = .returned v ∧ w' = w := by
  subst hv; subst hu
  rcases a with _ | ⟨g, off, sp⟩
  · obtain ⟨rfl, rfl⟩ := ha rfl
    have : i = 0 := by omega
    subst this
    go_enter Tryd.func87, Tryd.ntmps87
    go_wp2
    go_ret
    exact ⟨rfl, rfl⟩
  · go_enter Tryd.func87, Tryd.ntmps87
    go_wp2
    all_goals go_ret
    all_goals exact ⟨rfl, rfl⟩

set_option maxHeartbeats 400000 in
theorem insert_end (w : World) {base : Nat} (hbw : base ≤ w.heap.size) {v u : Value} {xs ys : List Nat} (hs : w.ownsRow base 5 1 v xs.length (bv xs)) (hy : Rd w u (bv ys)) (h0 : 0 < ys.length) (hl : xs.length + ys.length ≤ 140737488355328) :
    Calls Tryd.prog 87 #[v, .int .i64 (xs.length : Int), u] w fun e w' => ∃ v', e = .returned v' ∧ w'.ownsRow base 5 1 v' (xs.length + ys.length) (bv (xs ++ ys)) ∧ w.grownBy w' v.ownBlock := by
  have hz1 : ¬ ((ys.length : Int) = 0) := by omega
  have hz2 : ((ys.length : Int) == 0) = false := beq_eq_false_iff_ne.2 (by omega)
  obtain ⟨ao, c, rfl, hc⟩ := ownsRow_slice hs
  obtain ⟨au, cu, hu⟩ := hy.form
  rw [bv_len] at hu
  subst hu
  have hn : ao = none → c = 0 ∧ xs.length = 0 := fun e => by
    subst e
    rcases hs.2 with ⟨h, _⟩ | ⟨g, cap, cur, h, _⟩
    · simp only [Value.slice.injEq] at h; exact ⟨h.2.2, h.2.1⟩
    · cases h
  have HS := hid hs
  have HY := hid hy
  clear hs hy
  have key : ∀ (o : Oper) (a : Act) (ops : Array Oper) (rest : List Oper) (Q : Exit → Act → World → Prop) (s x : Operand), o.guard = none → o.op = .call { callee := .builtin .append, args := #[s, x], argTypes := #[33, 33] } → a.eval s = .slice ao xs.length c → a.eval x = .slice au ys.length cu →
      (∀ v' w', w'.ownsRow base 5 1 v' (xs.length + ys.length) (bv (xs ++ ys)) → w.grownBy w' (Value.slice ao xs.length c).ownBlock → wpList Tryd.prog ops Q rest (a.put o.dst v') w') → wpList Tryd.prog ops Q (o :: rest) a w := by
    intro o a ops rest Q s x h1 h2 h3 h4 h5
    refine wpList_append_rd h1 s x h2 base hbw _ _ _ h3 HS.out _ _ h4 HY.out bv_one (by rw [bv_len]; exact hl) fun v' w' k1 k2 _ => ?_
    refine h5 v' w' ?_ k2
    rw [bv_len] at k1
    rw [bv_append]; exact k1
  have KEY := hid key
  clear key
  rcases ao with _ | ⟨g, off, sp⟩
  · obtain ⟨rfl, hx⟩ := hn rfl
    have hx1 : xs = [] := List.eq_nil_of_length_eq_zero hx
    subst hx1
    simp only [List.length_nil] at KEY ⊢
    go_enter Tryd.func87, Tryd.ntmps87
    go_wp2_with (at_builtin; refine KEY.out _ _ _ _ _ _ _ rfl rfl rfl rfl ?_; intro v' w1 o1 o2)
    go_ret
    rw [Nat.zero_add, List.nil_append] at o1
    exact ⟨v', rfl, o1, o2⟩
  · go_enter Tryd.func87, Tryd.ntmps87
    go_wp2_with (at_builtin; refine KEY.out _ _ _ _ _ _ _ rfl rfl rfl rfl ?_; intro v' w1 o1 o2)
    all_goals go_ret
    all_goals exact ⟨v', rfl, o1, o2⟩

/-- A row with something laid over it. -/
def over (L : List Value) (k : Nat) (X : List Value) : List Value := L.take k ++ X ++ L.drop (k + X.length)
theorem over_len {L X : List Value} {k : Nat} (h : k + X.length ≤ L.length) : (over L k X).length = L.length := by
  unfold over; rw [List.length_append, List.length_append, List.length_take, List.length_drop]; omega
theorem over_shift {L X2 Y : List Value} {i m n : Nat} (hY : Y.length = m) (hX : X2.length = n - i) (hi : i ≤ n) (hn : n + m ≤ L.length) :
    (over (over L (i + m) X2) i Y).take (n + m) = L.take i ++ Y ++ X2 := by
  have e1 : (over L (i + m) X2).take i = L.take i := by
    unfold over
    rw [List.append_assoc, List.take_append_of_le_length (by rw [List.length_take]; omega), List.take_take, Nat.min_eq_left (by omega)]
  have e2 : (over L (i + m) X2).drop (i + m) = X2 ++ L.drop (i + m + X2.length) := by
    unfold over
    rw [List.append_assoc, List.drop_left' (by rw [List.length_take]; omega)]
  unfold over at e1 e2 ⊢
  rw [e1, hY, e2, ← List.append_assoc]
  exact List.take_left' (by simp only [List.length_append, List.length_take]; omega)
theorem over_grow {L X2 Y : List Value} {i m n : Nat} (hY : Y.length = m) (hX : X2.length = n - i) (hi : i ≤ n) (hn : n + m ≤ L.length) :
    (over (over L i Y) (i + m) X2).take (n + m) = L.take i ++ Y ++ X2 := by
  have e1 : (over L i Y).take (i + m) = L.take i ++ Y := by
    unfold over
    exact List.take_left' (by simp only [List.length_append, List.length_take]; omega)
  unfold over at e1 ⊢
  rw [e1]
  exact List.take_left' (by simp only [List.length_append, List.length_take]; omega)

theorem copy_over (w : World) {g k dl dc sl sc : Nat} {a : Addr} {cur : List Value} {cs : List Value} (hg : w.heap[g]? = some (.cells cur.toArray 5 (0, 0))) (hn : cs.length = Nat.min sl dl) (hsrc : ∀ j v, cs[j]? = some v → w.cell? (a.add j) = some v) (hfit : k + cs.length ≤ cur.length) (h1 : ∀ v ∈ cs, v.oneCell' = true) (ty : TypeId) :
    (Builtin.copy_ #[33, 33] ty #[.slice (some ⟨g, k, none⟩) dl dc, .slice (some a) sl sc]).run Tryd.prog w = .ok (goInt cs.length) (w.setRow g (over cur k cs).toArray) :=
  run_copy_row Tryd.prog w 33 33 ty 5 g k dl dc a sl sc cur.toArray 5 cs Tryd.underlying33 sizeB hg hn hsrc (by simpa using hfit) h1
theorem cell_heap {w w' : World} (h : w'.heap = w.heap) (a : Addr) : w'.cell? a = w.cell? a := World.cell?_of_block (by rw [h])
theorem setRow_at {w w' : World} {g : Nat} {cur cs : Array Value} {t : TypeId} (hg : w.heap[g]? = some (.cells cur t (0, 0))) (h : w'.heap = w.heap) : (w'.setRow g cs).heap[g]? = some (.cells cs t (0, 0)) := setRow_heap w' g cur cs t (0, 0) (by rw [h]; exact hg)

set_option maxRecDepth 100000 in
set_option maxHeartbeats 1600000 in
theorem insert_shift (w : World) {base g c gu cu i : Nat} {cur curu : List Value} {xs ys : List Nat} (hb : base ≤ g) (hg : w.heap[g]? = some (.cells cur.toArray 5 (0, 0))) (hc : cur.length = c) (hcm : c ≤ maxLen) (hx : cur.take xs.length = bv xs) (hgu : w.heap[gu]? = some (.cells curu.toArray 5 (0, 0))) (hyu : curu.take ys.length = bv ys) (hne : gu ≠ g)
    (hi : i < xs.length) (hm : 0 < ys.length) (hroom : xs.length + ys.length ≤ c) :
    Calls Tryd.prog 87 #[.slice (some ⟨g, 0, none⟩) xs.length c, .int .i64 (i : Int), .slice (some ⟨gu, 0, none⟩) ys.length cu] w fun e w' => ∃ v', e = .returned v' ∧ w'.ownsRow base 5 1 v' (xs.length + ys.length) (bv (xs.take i ++ ys ++ xs.drop i)) ∧ w.grownBy w' (some g) := by
  have hc63 : c ≤ 9223372036854775807 := by unfold maxLen at hcm; omega
  obtain ⟨n, hn⟩ : ∃ n, n = xs.length := ⟨_, rfl⟩
  obtain ⟨m, hmm⟩ : ∃ m, m = ys.length := ⟨_, rfl⟩
  rw [← hn] at hx hi hroom ⊢
  rw [← hmm] at hyu hm hroom ⊢
  have hcellx : ∀ j v, (bv (xs.drop i))[j]? = some v → w.cell? ⟨g, i + j, none⟩ = some v := fun j v hj => by
    rw [blk_cell hg, ← Array.getElem?_toList]
    rw [bv_drop, List.getElem?_drop, ← hx, List.getElem?_take] at hj
    split at hj
    · simpa using hj
    · cases hj
  have hcelly : ∀ j v, (bv ys)[j]? = some v → w.cell? ⟨gu, j, none⟩ = some v := fun j v hj => by
    rw [blk_cell hgu, ← Array.getElem?_toList]
    rw [← hyu, List.getElem?_take] at hj
    split at hj
    · simpa using hj
    · cases hj
  have hXl : (bv (xs.drop i)).length = n - i := by rw [bv_len, List.length_drop, ← hn]
  have hYl : (bv ys).length = m := by rw [bv_len, ← hmm]
  obtain ⟨L1, hL1⟩ : ∃ L1, L1 = over cur (i + m) (bv (xs.drop i)) := ⟨_, rfl⟩
  have hl1 : L1.length = c := by rw [hL1, over_len (by omega), hc]
  have hcp1 : ∀ (W : World), W.heap = w.heap → ∀ ty dc sc, (Builtin.copy_ #[33, 33] ty #[.slice (some ⟨g, i + m, none⟩) (n + m - (i + m)) dc, .slice (some ⟨g, i, none⟩) (n + m - i) sc]).run Tryd.prog W = .ok (goInt (n - i : Nat)) (W.setRow g L1.toArray) := fun W hW ty dc sc => by
    have h := copy_over W (g := g) (k := i + m) (dl := n + m - (i + m)) (dc := dc) (sl := n + m - i) (sc := sc) (a := ⟨g, i, none⟩) (cur := cur) (cs := bv (xs.drop i)) (by rw [hW]; exact hg) (by rw [hXl]; simp only [Nat.min_def]; split <;> omega) (fun j v hj => by rw [Addr.add_lit, cell_heap hW]; exact hcellx j v hj) (by omega) bv_one ty
    rw [hXl, ← hL1] at h
    exact h
  have hcp2 : ∀ (W : World), W.heap = (w.setRow g L1.toArray).heap → ∀ ty dc, (Builtin.copy_ #[33, 33] ty #[.slice (some ⟨g, i, none⟩) (n + m - i) dc, .slice (some ⟨gu, 0, none⟩) m cu]).run Tryd.prog W = .ok (goInt (m : Nat)) (W.setRow g (over L1 i (bv ys)).toArray) := fun W hW ty dc => by
    have h := copy_over W (g := g) (k := i) (dl := n + m - i) (dc := dc) (sl := m) (sc := cu) (a := ⟨gu, 0, none⟩) (cur := L1) (cs := bv ys) (by rw [hW]; exact setRow_at hg rfl) (by rw [hYl]; simp only [Nat.min_def]; split <;> omega)
      (fun j v hj => by rw [Addr.add_lit, Nat.zero_add, cell_heap hW, World.cell?_of_block (w := w) (setRow_other w g gu _ hne)]; exact hcelly j v hj) (by omega) bv_one ty
    rw [hYl] at h
    exact h
  have hov : ∀ lb cb, (callFunc 105 #[.slice (some ⟨gu, 0, none⟩) m cu, .slice (some ⟨g, i + m, none⟩) lb cb]).run Tryd.prog w = .ok (.value (.bool false)) w := fun lb cb => by
    rw [run_callFunc_extern Tryd.func105 (by kernel_rfl) (by kernel_rfl) (by kernel_rfl) (e := Extern.SlicesOverlaps.overlaps #[33, 33] #[4]) (by kernel_rfl),
      Lib.run_overlaps_apart w 33 4 5 Tryd.underlying33 1 sizeOfB ⟨gu, 0, none⟩ ⟨g, i + m, none⟩ m cu lb cb hne 5 5 curu.length cur.length (by simp [World.shape?, hgu]) (by simp [World.shape?, hg]) (by omega) (blk_frozen hgu 0) (blk_frozen hgu _)]
    rfl
  have hz1 : ¬ ((m : Int) = 0) := by omega
  have hz2 : ¬ ((i : Int) = (n : Int)) := by omega
  have hz1b : ((m : Int) == 0) = false := beq_eq_false_iff_ne.2 (by omega)
  have hw1 : IntKind.i64.wrap ((i : Int) + (m : Int)) = (i : Int) + (m : Int) := by rw [IntKind.wrap_i64]; omega
  have hb1 : (0 : Int) ≤ (i : Int) + (m : Int) := by omega
  have hin : i ≤ n := by omega
  have htn : ((i : Int) + (m : Int)).toNat = i + m := by omega
  have hb2 : ¬ (c = i + m) := by omega
  have hb3 : (i : Int) ≤ (n : Int) + (m : Int) := by omega
  have hb4 : ¬ (c = i) := by omega
  have hfin : Hid (∀ W1 : World, W1.heap = ((w.setRow g L1.toArray).setRow g (over L1 i (bv ys)).toArray).heap → W1.os = w.os → W1.tape = w.tape → W1.output = w.output → W1.ownsRow base 5 1 (.slice (some ⟨g, 0, none⟩) (n + m) c) (n + m) (bv (xs.take i ++ ys ++ xs.drop i)) ∧ w.grownBy W1 (some g)) := by
    intro W1 hW h1 h2 h3
    refine ⟨⟨by rw [bv_len]; simp only [List.length_append, List.length_take, List.length_drop]; omega, .inr ⟨g, c, (over L1 i (bv ys)).toArray, rfl, hb, by rw [hW]; exact setRow_at (setRow_at hg rfl) rfl, hroom, hcm, by simp only [List.size_toArray]; rw [over_len (by omega)]; omega, ?_⟩⟩, h1, h2, h3, by rw [hW]; simp [World.setRow], fun k hk hkg => ?_⟩
    · rw [Nat.mul_one, List.toList_toArray, hL1, over_shift hYl hXl (by omega) (by omega), bv_append, bv_append, bv_take, ← hx, List.take_take, Nat.min_eq_left (by omega)]
    · rw [hW, setRow_other _ _ _ _ (fun e => hkg (by rw [e])), setRow_other _ _ _ _ (fun e => hkg (by rw [e]))]
  clear hx hyu hcellx hcelly hXl hYl hL1 hl1 hgu hg hn hmm
  go_enter Tryd.func87, Tryd.ntmps87
  go_wp2_with (simp only [hov])
  have hr1 := hcp1 w.drew rfl
  have hr2 := hcp2 (w.drew.setRow g L1.toArray) rfl
  go_region
  go_wp2
  go_ret
  exact ⟨_, rfl, hfin.out _ rfl rfl rfl rfl⟩

set_option maxRecDepth 100000 in
set_option maxHeartbeats 1600000 in
theorem insert_grow (w : World) {base g c gu cu i : Nat} {cur curu : List Value} {xs ys : List Nat} (hbw : base ≤ w.heap.size) (hg : w.heap[g]? = some (.cells cur.toArray 5 (0, 0))) (hc : cur.length = c) (hnc : xs.length ≤ c) (hx : cur.take xs.length = bv xs) (hgu : w.heap[gu]? = some (.cells curu.toArray 5 (0, 0))) (hyu : curu.take ys.length = bv ys)
    (hi : i < xs.length) (hm : 0 < ys.length) (hroom : c < xs.length + ys.length) (hbig : xs.length + ys.length ≤ 140737488355328) :
    Calls Tryd.prog 87 #[.slice (some ⟨g, 0, none⟩) xs.length c, .int .i64 (i : Int), .slice (some ⟨gu, 0, none⟩) ys.length cu] w fun e w' => ∃ v', e = .returned v' ∧ w'.ownsRow base 5 1 v' (xs.length + ys.length) (bv (xs.take i ++ ys ++ xs.drop i)) ∧ w.grownBy w' (some g) := by
  obtain ⟨i0, hi0, hz0, hzs, hzb⟩ := info_parts infoB
  have hglt := blk_lt hg
  have hgult := blk_lt hgu
  obtain ⟨n, hn⟩ : ∃ n, n = xs.length := ⟨_, rfl⟩
  obtain ⟨m, hmm⟩ : ∃ m, m = ys.length := ⟨_, rfl⟩
  rw [← hn] at hx hi hroom hnc hbig ⊢
  rw [← hmm] at hyu hm hroom hbig ⊢
  have hcellx : ∀ j v, (bv (xs.drop i))[j]? = some v → w.cell? ⟨g, i + j, none⟩ = some v := fun j v hj => by
    rw [blk_cell hg, ← Array.getElem?_toList]
    rw [bv_drop, List.getElem?_drop, ← hx, List.getElem?_take] at hj
    split at hj
    · simpa using hj
    · cases hj
  have hcellt : ∀ j v, (bv (xs.take i))[j]? = some v → w.cell? ⟨g, j, none⟩ = some v := fun j v hj => by
    rw [blk_cell hg, ← Array.getElem?_toList]
    rw [bv_take, ← hx, List.take_take, List.getElem?_take] at hj
    split at hj
    · simpa using hj
    · cases hj
  have hcelly : ∀ j v, (bv ys)[j]? = some v → w.cell? ⟨gu, j, none⟩ = some v := fun j v hj => by
    rw [blk_cell hgu, ← Array.getElem?_toList]
    rw [← hyu, List.getElem?_take] at hj
    split at hj
    · simpa using hj
    · cases hj
  have hXl : (bv (xs.drop i)).length = n - i := by rw [bv_len, List.length_drop, ← hn]
  have hYl : (bv ys).length = m := by rw [bv_len, ← hmm]
  have hTl : (bv (xs.take i)).length = i := by rw [bv_len, List.length_take, ← hn]; omega
  have hold : (Builtin.firstCells i0.size i (.slice (some ⟨g, 0, none⟩) i c)).run Tryd.prog w.drew = .ok (bv (xs.take i)).toArray w.drew := by
    rw [hzs]
    exact run_firstCells_some w.drew 1 i ⟨g, 0, none⟩ i c (bv (xs.take i)) (by rw [hTl, Nat.mul_one]) (fun j v hj => by rw [Addr.add_lit, Nat.zero_add]; exact hcellt j v hj)
  obtain ⟨G, hG⟩ : ∃ G, G = grownCap w (n + m) c 5 := ⟨_, rfl⟩
  obtain ⟨ROW, hROW⟩ : ∃ ROW : List Value, ROW = bv (xs.take i) ++ (Builtin.zeroCells (Value.int .u8 0).cells (n + m - i)).toList ++ (Builtin.zeroCells (Value.int .u8 0).cells (G - (n + m))).toList := ⟨_, rfl⟩
  have hGn : n + m ≤ G := by rw [hG]; exact grownCap_ge w _ _ _
  have hGm : G ≤ maxLen := by rw [hG]; exact grownCap_le_maxLen w (n + m) c _ (by unfold maxLen; omega)
  have hG63 : G ≤ 9223372036854775807 := by unfold maxLen at hGm; omega
  have hRl : ROW.length = G := by
    rw [hROW]
    simp only [List.length_append, hTl, Array.length_toList, size_zeroCells, Value.cells]
    simp; omega
  have hRt : ROW.take i = bv (xs.take i) := by rw [hROW, List.append_assoc]; exact List.take_left' hTl
  have hrz : ∀ ty, (Builtin.append_ #[33, 3] ty #[.slice (some ⟨g, 0, none⟩) i c, .int .i64 ((n : Int) + (m : Int) - (i : Int))]).run Tryd.prog w =
      .ok (.slice (some ⟨w.heap.size, 0, none⟩) (n + m) G) (w.drew.alloc (.cells ROW.toArray 5)) := fun ty => by
    have h := Lib.run_append_grow_zeros w 33 3 ty 5 i0 _ .i64 .i64 Tryd.underlying33 Tryd.underlying3 hi0 hz0 (some ⟨g, 0, none⟩) i c (bv (xs.take i)) hold (n + m - i) (by omega) (by omega) (by omega) (by omega) (by rw [hzb]; omega) (by rw [hzb, show i + (n + m - i) = n + m by omega]; exact growslice_fits hroom (by omega))
    rw [show i + (n + m - i) = n + m by omega, ← hG] at h
    rw [show (n : Int) + (m : Int) - (i : Int) = ((n + m - i : Nat) : Int) by omega, h, hROW]
    congr 3
    apply Array.ext'
    simp
  obtain ⟨L1, hL1⟩ : ∃ L1, L1 = over ROW i (bv ys) := ⟨_, rfl⟩
  have hl1 : L1.length = G := by rw [hL1, over_len (by omega), hRl]
  obtain ⟨N, hN⟩ : ∃ N, N = w.heap.size := ⟨_, rfl⟩
  rw [← hN] at hrz
  have hNB : (w.alloc (.cells ROW.toArray 5)).heap[N]? = some (.cells ROW.toArray 5 (0, 0)) := new_at w _ hN
  have hcp1 : ∀ (W : World), W.heap = (w.alloc (.cells ROW.toArray 5)).heap → ∀ ty dc, (Builtin.copy_ #[33, 33] ty #[.slice (some ⟨N, i, none⟩) (n + m - i) dc, .slice (some ⟨gu, 0, none⟩) m cu]).run Tryd.prog W = .ok (goInt (m : Nat)) (W.setRow N L1.toArray) := fun W hW ty dc => by
    have h := copy_over W (g := N) (k := i) (dl := n + m - i) (dc := dc) (sl := m) (sc := cu) (a := ⟨gu, 0, none⟩) (cur := ROW) (cs := bv ys) (by rw [hW]; exact hNB) (by rw [hYl]; simp only [Nat.min_def]; split <;> omega)
      (fun j v hj => by rw [Addr.add_lit, Nat.zero_add, cell_heap hW, World.cell?_of_block (w := w) (blk_old w _ hgult)]; exact hcelly j v hj) (by omega) bv_one ty
    rw [hYl, ← hL1] at h
    exact h
  have hcp2 : ∀ (W : World), W.heap = ((w.alloc (.cells ROW.toArray 5)).setRow N L1.toArray).heap → ∀ ty dc sc, (Builtin.copy_ #[33, 33] ty #[.slice (some ⟨N, i + m, none⟩) (n + m - (i + m)) dc, .slice (some ⟨g, i, none⟩) (n - i) sc]).run Tryd.prog W = .ok (goInt (n - i : Nat)) (W.setRow N (over L1 (i + m) (bv (xs.drop i))).toArray) := fun W hW ty dc sc => by
    have h := copy_over W (g := N) (k := i + m) (dl := n + m - (i + m)) (dc := dc) (sl := n - i) (sc := sc) (a := ⟨g, i, none⟩) (cur := L1) (cs := bv (xs.drop i)) (by rw [hW]; exact setRow_at hNB rfl) (by rw [hXl]; simp only [Nat.min_def]; split <;> omega)
      (fun j v hj => by rw [Addr.add_lit, cell_heap hW, World.cell?_of_block (w := w) ((setRow_other _ N g _ (by omega)).trans (blk_old w _ hglt))]; exact hcellx j v hj) (by omega) bv_one ty
    rw [hXl] at h
    exact h
  have hfin : Hid (∀ W1 : World, W1.heap = (((w.alloc (.cells ROW.toArray 5)).setRow N L1.toArray).setRow N (over L1 (i + m) (bv (xs.drop i))).toArray).heap → W1.os = w.os → W1.tape = w.tape → W1.output = w.output → W1.ownsRow base 5 1 (.slice (some ⟨N, 0, none⟩) (n + m) G) (n + m) (bv (xs.take i ++ ys ++ xs.drop i)) ∧ w.grownBy W1 (some g)) := by
    intro W1 hW h1 h2 h3
    refine ⟨⟨by rw [bv_len]; simp only [List.length_append, List.length_take, List.length_drop]; omega, .inr ⟨N, G, (over L1 (i + m) (bv (xs.drop i))).toArray, rfl, by omega, by rw [hW]; exact setRow_at (setRow_at hNB rfl) rfl, hGn, hGm, by simp only [List.size_toArray]; rw [over_len (by omega)]; omega, ?_⟩⟩, h1, h2, h3, by rw [hW]; simp [World.setRow], fun k hk _ => ?_⟩
    · rw [Nat.mul_one, List.toList_toArray, hL1, over_grow hYl hXl (by omega) (by omega), bv_append, bv_append, hRt]
    · rw [hW, setRow_other _ N k _ (by omega), setRow_other _ N k _ (by omega)]
      exact blk_old w _ hk
  have hz1 : ¬ ((m : Int) = 0) := by omega
  have hz2 : ¬ ((i : Int) = (n : Int)) := by omega
  have hz3 : (c : Int) < (n : Int) + (m : Int) := by omega
  have hz1b : ((m : Int) == 0) = false := beq_eq_false_iff_ne.2 (by omega)
  have hw1 : IntKind.i64.wrap ((i : Int) + (m : Int)) = (i : Int) + (m : Int) := by rw [IntKind.wrap_i64]; omega
  have hb1 : (0 : Int) ≤ (i : Int) + (m : Int) := by omega
  have hin : i ≤ n := by omega
  have htn : ((i : Int) + (m : Int)).toNat = i + m := by omega
  have hGi : ¬ (G = i) := by omega
  have hGim : ¬ (G = i + m) := by omega
  have hb4 : ¬ (c = i) := by omega
  have hb3 : (i : Int) ≤ (n : Int) := by omega
  clear hx hyu hcellx hcelly hcellt hXl hYl hTl hL1 hl1 hgu hg hn hmm hold hG hROW hRl hRt hNB hi0 hz0 hzs hzb
  have hr1 := hcp1 ((w.alloc (.cells ROW.toArray 5)).drew) rfl
  have hr2 := hcp2 ((((w.alloc (.cells ROW.toArray 5)).drew).setRow N L1.toArray).drew) rfl
  clear hN
  go_enter Tryd.func87, Tryd.ntmps87
  go_wp2_with (at_builtin; refine Lib.wpList_append_run _ rfl _ _ _ _ rfl _ _ rfl rfl _ _ (hrz _) ?_)
  go_region
  go_wp2
  go_ret
  exact ⟨_, rfl, hfin.out _ rfl rfl rfl rfl⟩
end Go.Proofs.YtmpfnglcmaollaaDoor
namespace Go.Proofs.YtmpfnglcmaollaaDoor
open Go.ChangeShapes Go.WideShapes Go.ChangeAt Go.RowKit

theorem insert_c (w : World) {base base2 : Nat} (hbw : base ≤ w.heap.size) {v u : Value} {xs ys : List Nat} {i : Nat} (hs : w.ownsRow base 5 1 v xs.length (bv xs)) (hy : w.ownsRow base2 5 1 u ys.length (bv ys)) (hne : ∀ k, v.ownBlock = some k → u.ownBlock ≠ some k) (hi : i ≤ xs.length) (hl : xs.length + ys.length ≤ 140737488355328) :
    Calls Tryd.prog 87 #[v, .int .i64 (i : Int), u] w fun e w' => ∃ v', e = .returned v' ∧ w'.ownsRow base 5 1 v' (xs.length + ys.length) (bv (xs.take i ++ ys ++ xs.drop i)) ∧ w.grownBy w' v.ownBlock := by
  by_cases hm : ys.length = 0
  · have h0 : ys = [] := List.eq_nil_of_length_eq_zero hm
    subst h0
    obtain ⟨a, c, rfl, hc⟩ := ownsRow_slice hs
    obtain ⟨au, cu, rfl, _⟩ := ownsRow_slice hy
    refine (insert_none w rfl rfl hi hc (by omega) ?_).mono ?_
    · intro e
      subst e
      rcases hs.2 with ⟨h, _⟩ | ⟨g, cap, cur, h, _⟩
      · simp only [Value.slice.injEq] at h; exact ⟨h.2.2, h.2.1⟩
      · cases h
    · rintro e w' ⟨rfl, rfl⟩
      refine ⟨_, rfl, ?_, rfl, rfl, rfl, Nat.le_refl _, fun _ _ _ => rfl⟩
      rw [List.append_nil, List.take_append_drop]
      exact hs
  · by_cases hie : i = xs.length
    · subst hie
      refine (insert_end w hbw hs (Rd.ownB hy) (by omega) hl).mono ?_
      rintro e w' ⟨v', rfl, o, g⟩
      refine ⟨v', rfl, ?_, g⟩
      rw [List.take_length, List.drop_length, List.append_nil]
      exact o
    · rcases hs.2 with ⟨_, h0⟩ | ⟨g, c, cur, rfl, hb, hg, hnc, hcm, hsz, hx⟩
      · omega
      · rcases hy.2 with ⟨_, h0⟩ | ⟨gu, cu, curu, rfl, _, hgu, hncu, _, hszu, hyu⟩
        · omega
        · have hne' : gu ≠ g := fun e => hne g rfl (by rw [e]; rfl)
          rw [Nat.mul_one] at hsz hszu hx hyu
          by_cases hroom : xs.length + ys.length ≤ c
          · exact insert_shift w (cur := cur.toList) (curu := curu.toList) hb (by simpa using hg) (by simpa using hsz) hcm hx (by simpa using hgu) hyu hne' (by omega) (by omega) hroom
          · exact insert_grow w (cur := cur.toList) (curu := curu.toList) hbw (by simpa using hg) (by simpa using hsz) hnc hx (by simpa using hgu) hyu (by omega) (by omega) (by omega) hl
end Go.Proofs.YtmpfnglcmaollaaDoor
